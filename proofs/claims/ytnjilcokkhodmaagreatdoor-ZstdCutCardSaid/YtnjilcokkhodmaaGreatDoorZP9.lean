/-
  words: the words of a code, one behind the other.
  The array of words, and the bits that are packed.
  The array of cells in which words are found.
  cellsOf.
  readWords.
  Unpack; what Pack and Unpack answer where they refuse.
  Read: how many bytes a description has, weights of four bits, the last weight.
  Read: the last weight, and what Read makes of weights that are told.
  Read, by what the description tells.
  The last weight, as the document finds it.
-/
import Derived.Laws.Rows
import Derived.Laws.Tables
import Derived.Deep.WholeRow
import Derived.Deep.RegionHeld3
import Derived.Deep.QuietTactic
import Derived.Test.YtnjilcokkhodmaaGreatDoorZP4
import Derived.Test.YtnjilcokkhodmaaGreatDoorZP6
namespace Go.Proofs.YtnjilcokkhodmaaGreatDoor
open Go.RowKit Go.Shelf
set_option linter.unusedVariables false

attribute [local go_sem] Oper.semAt_some

set_option maxHeartbeats 1000000 in
theorem words_in (F : Fence) (n : Nat) (h22 : F.fn 133) (hro : F.round = none) (a : Option Addr) (len cap : Nat) (m : Int) (w : World) :
  CallsIn F n Tryz.prog 133 #[.slice a len cap, .int .i64 m] w fun e w' => e = .returned (.func (.func 145) #[] #[.pointer (some ⟨w.heap.size + 1, 0, none⟩), .pointer (some ⟨w.heap.size, 0, none⟩)]) ∧ w' = (w.alloc (.cells #[.slice a len cap] 22)).alloc (.cells #[.int .i64 m] 3) := by
 refine callsIn_of_wp Tryz.func133 rfl h22 ?_ hro
 simp only [Tryz.ntmps133, List.size_toArray, List.length_cons, List.length_nil, Nat.reduceAdd, Nat.reduceSub, Array.replicate_succ, Array.replicate_zero, List.push_toArray, List.append_toArray, List.nil_append, List.cons_append]
 gi_wp2
 go_ret
 exact ⟨rfl, rfl⟩

/-- The boxes of a range over words, and the weights. -/
structure WBox (Bs Bm : Nat) (a : Option Addr) (cap gb off : Nat) (ws : List Nat) (m : Nat) (W : World) : Prop where
 bs : W.heap[Bs]? = some (.cells #[.slice a ws.length cap] 22 (0, 0))
 bm : W.heap[Bm]? = some (.cells #[.int .i64 (m : Int)] 3 (0, 0))
 row : Bytes W a cap gb off ws
def wordV (ws : List Nat) (m s : Nat) : Array Value := #[.int .u8 (s : Int), .agg #[.int .u64 ((wordX ws s : Nat) : Int), .int .i64 ((m + 1 - wt ws s : Nat) : Int)]]
def wordR (ws : List Nat) (m : Nat) (pre : List Nat) (vs : Array Value) (pre' : List Nat) (_ : World) : Prop := ∃ s, s < ws.length ∧ 1 ≤ wt ws s ∧ wt ws s ≤ m ∧ pre = ordTo ws (wt ws s - 1) s ∧ pre' = pre ++ [s] ∧ vs = wordV ws m s

set_option maxRecDepth 100000 in
set_option maxHeartbeats 4000000 in
theorem words1_in (n : Nat) (hn : 1 ≤ n) (l Bs Bm : Nat) (a : Option Addr) (cap gb off : Nat) (ws : List Nat) (m : Nat) (hc : IsCode ws m) (J : List Nat → World → Prop) (Jx : World → Prop)
    (hB : ∀ p W, J p W → WBox Bs Bm a cap gb off ws m W) (hD : ∀ p X Y, J p X → Keep noBlock X Y → J p Y)
    (hY : ∀ p vs p' V, wordR ws m p vs p' V → J p V → YieldAt Fence.wide (n - 1) Tryz.prog l vs V fun e W' => (e = .returned (.bool true) ∧ J p' W') ∨ (e = .returned (.bool false) ∧ Jx W')) (W : World) (h0 : J [] W) :
    CallsIn Fence.wide n Tryz.prog 145 #[.func (.yield l) #[] #[], .pointer (some ⟨Bm, 0, none⟩), .pointer (some ⟨Bs, 0, none⟩)] W fun e W' => (∃ v, e = .returned v) ∧ (J (ordC ws m) W' ∨ Jx W') := by
  have hb0 := hB _ _ h0
  have c1 : W.cell? ⟨Bm, 0, none⟩ = some (.int .i64 (m : Int)) := cell_of hb0.bm 0
  have hlen := hc.len
  have hm11 := hc.m11
  have HC := (show Hid (IsCode ws m) from hc)
  have HB := (show Hid (∀ p W, J p W → WBox Bs Bm a cap gb off ws m W) from hB)
  have HY := (show Hid (∀ p vs p' V, wordR ws m p vs p' V → J p V → _) from hY)
  have HD := (show Hid (∀ p X Y, J p X → Keep noBlock X Y → J p Y) from hD)
  obtain ⟨N, hN⟩ : ∃ N, N = ws.length := ⟨_, rfl⟩
  have HN := (show Hid (N = ws.length) from hN)
  rw [← hN] at hlen
  have hNI : (N : Int) ≤ 256 := by omega
  have hmI : (m : Int) ≤ 11 := by omega
  clear hB hY hb0 hc hN hD
  refine callsIn_of_wp Tryz.func145 rfl trivial ?_ rfl
  simp only [Tryz.ntmps145, List.size_toArray, List.length_cons, List.length_nil, Nat.reduceAdd, Nat.reduceSub, Array.replicate_succ, Array.replicate_zero, List.push_toArray, List.append_toArray, List.nil_append, List.cons_append]
  gi_wp2
  clear c1
  gi_loopw [4, 9] (fun v4 v9 wr => ∃ (c x : Nat), v9 = .int .i64 (c : Int) ∧ v4 = .int .i64 (x : Int) ∧ c ≤ m ∧ Hid (x = nextL ws (ordC ws c)) ∧ J (ordC ws c) wr) (fun _ v9 _ => m - (intOf v9).toNat)
  case atStart => exact ⟨0, 0, rfl, rfl, Nat.zero_le _, rfl, h0⟩
  case round =>
    clear h0
    obtain ⟨c, x, rfl, rfl, hcm, HX, hJ⟩ := hrel
    by_cases hlt : c < m
    · have hltI : (c : Int) < (m : Int) := by omega
      have hbx := HB.out _ _ hJ
      have c2 : wr.cell? ⟨Bs, 0, none⟩ = some (.slice a ws.length cap) := cell_of hbx.bs 0
      rw [← HN.out] at c2
      clear hbx
      gi_wp2_with fail
      clear c2
      gi_loopw [4, 14] (fun v4 v14 wr => ∃ (i x : Nat), v14 = .int .i64 (i : Int) ∧ v4 = .int .i64 (x : Int) ∧ i ≤ N ∧ Hid (x = nextL ws (ordTo ws c i)) ∧ J (ordTo ws c i) wr) (fun _ v14 _ => N - (intOf v14).toNat)
      case atStart => exact ⟨0, x, rfl, rfl, Nat.zero_le _, by rw [ordTo_zero]; exact HX.out, by rw [ordTo_zero]; exact hJ⟩
      case round =>
        clear hJ HX
        obtain ⟨i, x, rfl, rfl, hi, HX, hJ⟩ := hrel
        by_cases hil : i < N
        · have hix : i < ws.length := by have := HN.out; omega
          have hbx := HB.out _ _ hJ
          obtain rfl := hbx.row.here hix
          have c3 := hbx.row.cells i hix
          have hy11 := HC.out.le i hix
          have hilI : (i : Int) < (N : Int) := by omega
          have HW := (show Hid (wt ws i = ws[i]?.getD 0) from rfl)
          obtain ⟨y, hy⟩ : ∃ y, y = ws[i]?.getD 0 := ⟨_, rfl⟩
          rw [← hy] at c3 HW
          rw [HW.out] at hy11
          have hyI : (y : Int) ≤ 11 := by omega
          have c1 : wr.cell? ⟨Bm, 0, none⟩ = some (.int .i64 (m : Int)) := cell_of hbx.bm 0
          clear hbx hy
          by_cases hyc : y = c + 1
          · have hwi : wt ws i = c + 1 := by rw [HW.out]; exact hyc
            have hst : startW ws i = x := by unfold startW; rw [hwi, Nat.add_sub_cancel]; exact HX.out.symm
            obtain ⟨X, hX⟩ : ∃ X, X = wordX ws i := ⟨_, rfl⟩
            have hXx : X = x / 2 ^ c := by rw [hX]; unfold wordX; rw [hst, hwi, Nat.add_sub_cancel]
            have hXI : (x : Int) / 2 ^ c = (X : Int) := by rw [hXx]; simp
            have hxl : x + 2 ^ c ≤ 2 ^ m := by have := HC.out.start_le i hix (by omega); rw [hst, hwi, Nat.add_sub_cancel] at this; exact this
            have hp11 : 2 ^ m ≤ 2048 := Nat.pow_le_pow_right (n := 2) (j := 11) (by omega) hm11
            have hXl : X ≤ x := by rw [hXx]; exact Nat.div_le_self _ _
            have hx2 : x ≤ 2048 := Nat.le_trans (Nat.le_trans (Nat.le_add_right _ _) hxl) hp11
            obtain ⟨L, hL⟩ : ∃ L, L = m + 1 - wt ws i := ⟨_, rfl⟩
            have hLI : (m : Int) - (c : Int) = (L : Int) := by clear hxl hp11 hXI hXx; omega
            have hy2 := HY.out _ _ _ wr.drew ⟨i, hix, by omega, by omega, by rw [hwi, Nat.add_sub_cancel], rfl, rfl⟩ (HD.out _ _ _ hJ (Keep.refl _ wr).drew)
            unfold wordV at hy2
            rw [← hX, ← hL] at hy2
            rw [← ordTo_here ws c i hwi] at hy2
            obtain ⟨sh, hsh⟩ : ∃ sh, sh = shN y := ⟨_, rfl⟩
            have HSH := (show Hid (∀ w : World, Calls Tryz.prog 120 #[.int .u8 (y : Int)] w fun e w' => e = .returned (.int .i64 (sh : Int)) ∧ w' = w) from fun w => by rw [hsh]; exact shareW_any y hy11 w)
            have hshl : sh ≤ 1024 := by rw [hsh]; exact shN_le y hy11
            have hn2 : x + sh = nextL ws (ordTo ws c (i + 1)) := by rw [ordTo_here ws c i hwi, nextL_app, nextL_one, HW.out, hsh, HX.out]
            have HN2 := (show Hid _ from hn2)
            have hmx : Tryz.prog.follows .mixedOrders = true := by kernel_rfl
            have hiI : (i : Int) < 256 := by clear hxl hp11 hXI hXx; omega
            have hx2I : (x : Int) ≤ 2048 := by clear hxl hp11 hXI hXx; omega
            have hX2I : (X : Int) ≤ 2048 := by clear hxl hp11 hXI hXx; omega
            have hshI : (sh : Int) ≤ 1024 := by clear hxl hp11 hXI hXx; omega
            have hyc2 : (c : Int) + 1 = (y : Int) := by clear hxl hp11 hXI hXx; omega
            have hne : ((y : Int) != (y : Int)) = false := by simp
            have hw1 : IntKind.u8.wrap (i : Int) = (i : Int) := by clear hxl hp11 hXI hXx; rw [IntKind.wrap_u8]; omega
            have hw2 : IntKind.u64.wrap (X : Int) = (X : Int) := by clear hxl hp11 hXI hXx; rw [IntKind.wrap_u64]; omega
            have hw3 : IntKind.i64.wrap (L : Int) = (L : Int) := by clear hxl hp11 hXI hXx; rw [IntKind.wrap_i64]; omega
            clear hxl hp11 hXx hst hX hL hsh hXl hwi hyc hJ hn2
            obtain ⟨fn, tmps, assign, body, hy, hR⟩ := hy2
            have HR := (show Hid (RoundIn Fence.wide (n - 1) Tryz.prog l fn tmps assign body wr.drew fun e W' => ∃ b : Bool, e = .returned (.bool b) ∧ Hid ((b = true ∧ J (ordTo ws c (i + 1)) W') ∨ (b = false ∧ Jx W'))) from hR.mono (by
              rintro e W' (⟨rfl, h⟩ | ⟨rfl, h⟩)
              · exact ⟨true, rfl, .inl ⟨rfl, h⟩⟩
              · exact ⟨false, rfl, .inr ⟨rfl, h⟩⟩))
            clear hR
            gi_wp2_with fail
            refine wpIn_calm ?_
            gi_region_with_o (refine HR.out.mono ?_; rintro e W3 ⟨b, rfl, HJ3⟩)
            all_goals
              simp only [calm]
              cases b with
              | true =>
                have hJ3 : J (ordTo ws c (i + 1)) W3 := by
                  rcases HJ3.out with ⟨_, h⟩ | ⟨h, _⟩
                  · exact h
                  · cases h
                gi_wp2_with (refine ⟨trivial, ?_⟩; gi_at_call 120; refine (callsIn_wide.2 (HSH.out _)).mono ?_; rintro e w' ⟨rfl, rfl⟩)
                go_roundw
                case rel => exact ⟨i + 1, x + sh, by go_num, by go_num, by omega, HN2.out, hJ3⟩
                case measure => simp [intOf]; omega
              | false =>
                have hJ3 : Jx W3 := by
                  rcases HJ3.out with ⟨h, _⟩ | ⟨_, h⟩
                  · cases h
                  · exact h
                gi_wp2
                refine bodyPost_ret (results_none rfl _ _ _) rfl ?_
                exact ⟨⟨_, rfl⟩, .inr hJ3⟩
          · have hne : ((y : Int) != (c : Int) + 1) = true := by simp; omega
            have HJ := (show Hid (J (ordTo ws c (i + 1)) wr ∧ x = nextL ws (ordTo ws c (i + 1))) from by rw [ordTo_not ws c i (by rw [HW.out]; exact hyc)]; exact ⟨hJ, HX.out⟩)
            clear hJ hyc
            gi_wp2_with fail
            go_roundw
            case rel => exact ⟨i + 1, x, by go_num, rfl, by omega, HJ.out.2, HJ.out.1⟩
            case measure => simp [intOf]; omega
        · obtain rfl : i = N := by omega
          have hilI : ¬ (i : Int) < (i : Int) := by omega
          have HJ := (show Hid (J (ordC ws (c + 1)) wr ∧ x = nextL ws (ordC ws (c + 1))) from by rw [← ordTo_all, ← HN.out]; exact ⟨hJ, HX.out⟩)
          clear hJ
          gi_wp2_with fail
          go_roundw
          case rel => exact ⟨c + 1, x, by go_num, rfl, by omega, HJ.out.2, HJ.out.1⟩
          case measure => simp [intOf]; omega
    · obtain rfl : c = m := by omega
      have hltI : ¬ (c : Int) < (c : Int) := by omega
      gi_wp2
      go_end0
      exact ⟨⟨_, rfl⟩, .inl hJ⟩

end Go.Proofs.YtnjilcokkhodmaaGreatDoor

namespace Go.Proofs.YtnjilcokkhodmaaGreatDoor
open Go.RowKit Go.Shelf
set_option linter.unusedVariables false

theorem flat2 (n : Nat) (a b : Value) : ((List.replicate n [a, b]).flatten).length = 2 * n ∧ ∀ i, i < n → ((List.replicate n [a, b]).flatten)[i * 2]? = some a ∧ ((List.replicate n [a, b]).flatten)[i * 2 + 1]? = some b := by
  induction n with
  | zero => exact ⟨rfl, fun i hi => by omega⟩
  | succ n ih =>
    rw [List.replicate_succ, List.flatten_cons]
    refine ⟨by rw [List.length_append, ih.1]; simp; omega, fun i hi => ?_⟩
    cases i with
    | zero => exact ⟨rfl, rfl⟩
    | succ i =>
      obtain ⟨a1, a2⟩ := ih.2 i (by omega)
      refine ⟨?_, ?_⟩
      · rw [List.getElem?_append_right (by simp; omega)]; simpa [Nat.succ_mul] using a1
      · rw [List.getElem?_append_right (by simp; omega)]
        have e : (i + 1) * 2 + 1 - [a, b].length = i * 2 + 1 := by simp; omega
        rw [e]; exact a2

end Go.Proofs.YtnjilcokkhodmaaGreatDoor

namespace Go.Proofs.YtnjilcokkhodmaaGreatDoor
open Go.RowKit Go.Shelf
set_option linter.unusedVariables false

def ok2 : Nat → List Value → Bool
 | 0, [] => true
 | n + 1, a :: b :: r => isZ .u8 a && (isZ .u8 b && ok2 n r)
 | _, _ => false
theorem ok2_eq : ∀ (n : Nat) (l : List Value), ok2 n l = true → l = (List.replicate n [Value.int .u8 0, Value.int .u8 0]).flatten
  | 0, [], _ => rfl
  | 0, _ :: _, h => by simp [ok2] at h
  | n + 1, [], h => by simp [ok2] at h
  | n + 1, [_], h => by simp [ok2] at h
  | n + 1, a :: b :: r, h => by
    simp only [ok2, Bool.and_eq_true] at h
    rw [isZ_eq h.1, isZ_eq h.2.1, ok2_eq n r h.2.2, List.replicate_succ, List.flatten_cons]
    rfl
theorem chk105 : ok2 2048 Tryz.zeroCells207.toList = true := by kernel_rfl
theorem zero105 : Tryz.zeroCells207 = ((List.replicate 2048 [Value.int .u8 0, Value.int .u8 0]).flatten).toArray := by
 apply Array.ext'
 rw [List.toList_toArray]
 exact ok2_eq _ _ chk105

/-- Block b is the array of cells: symbols and lengths. -/
structure CelA (w : World) (b : Nat) (S N : Nat → Nat) : Prop where
 obj : ∃ cs, w.heap[b]? = some (.cells cs 207 (0, 0)) ∧ cs.size = 4096 ∧ ∀ i, i < 2048 → cs[i * 2]? = some (.int .u8 ((S i : Nat) : Int)) ∧ cs[i * 2 + 1]? = some (.int .u8 ((N i : Nat) : Int))
theorem CelA.cells {w : World} {b : Nat} {S N : Nat → Nat} (h : CelA w b S N) (i : Nat) (hi : i < 2048) :
  w.cell? ⟨b, i * 2, none⟩ = some (.int .u8 ((S i : Nat) : Int)) ∧ w.cell? ⟨b, i * 2 + 1, none⟩ = some (.int .u8 ((N i : Nat) : Int)) := by
 obtain ⟨cs, h1, _, h3⟩ := h.obj
 rw [cell_of h1, cell_of h1]
 exact h3 i hi
theorem CelA.frozen {w : World} {b : Nat} {S N : Nat → Nat} (h : CelA w b S N) (i : Nat) : w.frozen? ⟨b, i, none⟩ = false := by
 obtain ⟨cs, h1, _⟩ := h.obj
 exact frozen_of h1 i
theorem CelA.keep {w w' : World} {T : Nat → Prop} {b : Nat} {S N : Nat → Nat} (h : CelA w b S N) (hk : Keep T w w') (hS : ¬ T b) : CelA w' b S N := by
 obtain ⟨cs, h1, h2⟩ := h.obj
 exact ⟨cs, hk.obj h1 hS, h2⟩
theorem CelA.keepN {w w' : World} {B : Nat} {b : Nat} {S N : Nat → Nat} (h : CelA w b S N) (hk : KeepN B w w') : CelA w' b S N := by
 obtain ⟨cs, h1, h2⟩ := h.obj
 exact ⟨cs, hk.obj h1, h2⟩
theorem CelA.congr {w : World} {b : Nat} {S N S' N' : Nat → Nat} (h : CelA w b S N) (h1 : ∀ i, i < 2048 → S i = S' i) (h2 : ∀ i, i < 2048 → N i = N' i) : CelA w b S' N' := by
 obtain ⟨cs, a1, a2, a3⟩ := h.obj
 refine ⟨cs, a1, a2, fun i hi => ?_⟩
 rw [← h1 i hi, ← h2 i hi]
 exact a3 i hi
theorem CelA.set {w : World} {b : Nat} {S N : Nat → Nat} (h : CelA w b S N) (i x n : Nat) : CelA ((w.setCell ⟨b, i * 2, none⟩ (.int .u8 (x : Int))).setCell ⟨b, i * 2 + 1, none⟩ (.int .u8 (n : Int))) b (fun j => if j = i then x else S j) (fun j => if j = i then n else N j) := by
 obtain ⟨cs, h1, h2, h3⟩ := h.obj
 refine ⟨_, set_obj (set_obj h1 _ _) _ _, by rw [Array.size_setIfInBounds, Array.size_setIfInBounds, h2], fun j hj => ?_⟩
 rw [Array.getElem?_setIfInBounds, Array.getElem?_setIfInBounds, Array.getElem?_setIfInBounds, Array.getElem?_setIfInBounds, Array.size_setIfInBounds, if_neg (show ¬ i * 2 + 1 = j * 2 by omega), if_neg (show ¬ i * 2 = j * 2 + 1 by omega)]
 by_cases e : i = j
 ·subst e
  simp only [if_true]
  rw [if_pos (by omega), if_pos (by omega)]
  exact ⟨rfl, rfl⟩
 ·have e1 : ¬ i * 2 = j * 2 := by omega
  have e2 : ¬ i * 2 + 1 = j * 2 + 1 := by omega
  have e3 : ¬ j = i := fun h => e h.symm
  simp only [if_neg e1, if_neg e2, if_neg e3]
  exact h3 j hj
theorem celA_zeros (w : World) : CelA (w.alloc (.cells Tryz.zeroCells207 207)) w.heap.size (fun _ => 0) (fun _ => 0) := by
 obtain ⟨h1, h2⟩ := flat2 2048 (Value.int .u8 0) (Value.int .u8 0)
 rw [zero105]
 refine ⟨_, World.alloc_heap_new w _, by rw [List.size_toArray]; exact h1, fun i hi => ?_⟩
 simp only [List.getElem?_toArray]
 exact h2 i hi
theorem info105 : (Tryz.prog.info? 207).map (·.size) = some 4096 := by kernel_rfl
theorem cells_one {cs : Array Value} {S N : Nat → Nat} (h1 : cs.size = 4096) (h2 : ∀ i, i < 2048 → cs[i * 2]? = some (.int .u8 ((S i : Nat) : Int)) ∧ cs[i * 2 + 1]? = some (.int .u8 ((N i : Nat) : Int))) : cs.all (·.oneCell') = true := by
 rw [Array.all_eq_true]
 intro i hi
 obtain ⟨a1, a2⟩ := h2 (i / 2) (by omega)
 by_cases e : i % 2 = 0
 ·rw [show i / 2 * 2 = i from by omega, Array.getElem?_eq_getElem hi] at a1
  rw [Option.some.inj a1]; rfl
 ·rw [show i / 2 * 2 + 1 = i from by omega, Array.getElem?_eq_getElem hi] at a2
  rw [Option.some.inj a2]; rfl

def tS (l : List Nat) (x : Nat) : Nat := l[x]?.getD 0
def tN (ws : List Nat) (m : Nat) (l : List Nat) (x : Nat) : Nat := if x < l.length then m + 1 - wt ws (l[x]?.getD 0) else 0
theorem tS_snoc (l : List Nat) (s x : Nat) : (if x = l.length then s else tS l x) = tS (l ++ [s]) x := by
 unfold tS
 by_cases h : x = l.length
 ·subst h; simp
 ·rw [if_neg h]
  by_cases h2 : x < l.length
  ·rw [List.getElem?_append_left h2]
  ·rw [List.getElem?_eq_none (by omega), List.getElem?_eq_none (by simp; omega)]
theorem tN_snoc (ws : List Nat) (m : Nat) (l : List Nat) (s x : Nat) : (if x = l.length then m + 1 - wt ws s else tN ws m l x) = tN ws m (l ++ [s]) x := by
 unfold tN
 by_cases h : x = l.length
 ·subst h; simp
 ·rw [if_neg h]
  by_cases h2 : x < l.length
  ·rw [if_pos h2, if_pos (by simp; omega), List.getElem?_append_left h2]
  ·rw [if_neg h2, if_neg (by simp; omega)]
theorem rep_snoc (j s : Nat) (l : List Nat) : l ++ List.replicate (j + 1) s = (l ++ List.replicate j s) ++ [s] := by
 rw [List.replicate_succ', List.append_assoc]

end Go.Proofs.YtnjilcokkhodmaaGreatDoor

namespace Go.Proofs.YtnjilcokkhodmaaGreatDoor
open Go.RowKit Go.Shelf
set_option linter.unusedVariables false

attribute [local go_sem] Oper.semAt_some

/-- What cellsOf has: b is its first block; l: the numbers that were given out. -/
structure CeI (w : World) (b : Nat) (a : Option Addr) (cap k m : Nat) (ws l : List Nat) (V : World) : Prop where
 bx : V.heap[b]? = some (.cells #[.int .i64 (m : Int)] 3 (0, 0))
 tab : CelA V (b + 1) (tS l) (tN ws m l)
 next : V.heap[b + 1 + 1]? = some (.cells #[.int .i64 ((l.length : Nat) : Int)] 3 (0, 0))
 bs : V.heap[b + 1 + 1 + 1]? = some (.cells #[.slice a k cap] 22 (0, 0))
 bm : V.heap[b + 1 + 1 + 1 + 1]? = some (.cells #[.int .i64 (m : Int)] 3 (0, 0))
 keep : Keep noBlock w V
theorem CeI.keepN {w : World} {b : Nat} {a : Option Addr} {cap k m : Nat} {ws l : List Nat} {U V : World} {B : Nat} (h : CeI w b a cap k m ws l U) (hk : KeepN B U V) (hB : w.heap.size ≤ B) : CeI w b a cap k m ws l V :=
 ⟨hk.obj h.bx, h.tab.keepN hk, hk.obj h.next, hk.obj h.bs, hk.obj h.bm, h.keep.transN hk hB⟩
theorem CeI.keeps {w : World} {b : Nat} {a : Option Addr} {cap k m : Nat} {ws l : List Nat} {U V : World} (h : CeI w b a cap k m ws l U) (hk : Keep noBlock U V) : CeI w b a cap k m ws l V :=
 ⟨hk.obj h.bx (fun h => h), h.tab.keep hk (fun h => h), hk.obj h.next (fun h => h), hk.obj h.bs (fun h => h), hk.obj h.bm (fun h => h), h.keep.trans' hk⟩
theorem CeI.push {w : World} {b : Nat} {a : Option Addr} {cap k m : Nat} {ws l : List Nat} {V : World} (h : CeI w b a cap k m ws l V) (hb : w.heap.size ≤ b) (s : Nat) :
  CeI w b a cap k m ws (l ++ [s]) (((V.setCell ⟨b + 1, l.length * 2, none⟩ (.int .u8 (s : Int))).setCell ⟨b + 1, l.length * 2 + 1, none⟩ (.int .u8 ((m + 1 - wt ws s : Nat) : Int))).setCell ⟨b + 1 + 1, 0, none⟩ (.int .i64 (((l.length + 1 : Nat)) : Int))) := by
 have hk1 : Keep (fun j => j = b + 1) V ((V.setCell ⟨b + 1, l.length * 2, none⟩ (.int .u8 (s : Int))).setCell ⟨b + 1, l.length * 2 + 1, none⟩ (.int .u8 ((m + 1 - wt ws s : Nat) : Int))) :=
  ((Keep.refl (fun j => j = b + 1) V).setCell (p := ⟨b + 1, l.length * 2, none⟩) (fun _ => rfl) _).setCell (p := ⟨b + 1, l.length * 2 + 1, none⟩) (fun _ => rfl) _
 have ht := (h.tab.set l.length s (m + 1 - wt ws s)).congr (fun i _ => tS_snoc l s i) (fun i _ => tN_snoc ws m l s i)
 have hk2 := (Keep.refl (fun j => j = b + 1 + 1) ((V.setCell ⟨b + 1, l.length * 2, none⟩ (.int .u8 (s : Int))).setCell ⟨b + 1, l.length * 2 + 1, none⟩ (.int .u8 ((m + 1 - wt ws s : Nat) : Int)))).setCell (p := ⟨b + 1 + 1, 0, none⟩) (fun _ => rfl) (.int .i64 (((l.length + 1 : Nat)) : Int))
 refine ⟨hk2.obj (hk1.obj h.bx (by omega)) (by omega), ht.keep hk2 (by omega), (set_obj (hk1.obj h.next (by omega)) 0 _).trans (by simp), hk2.obj (hk1.obj h.bs (by omega)) (by omega), hk2.obj (hk1.obj h.bm (by omega)) (by omega), (h.keep.trans hk1 (fun i hi e => by omega)).trans hk2 (fun i hi e => by omega)⟩

set_option maxRecDepth 100000 in
set_option maxHeartbeats 4000000 in
theorem cellsOf_any (a : Option Addr) (cap gb off : Nat) (ws : List Nat) (m : Nat) (w : World) (hB : Bytes w a cap gb off ws) (hc : IsCode ws m) :
  Calls Tryz.prog 111 #[.slice a ws.length cap, .int .i64 (m : Int)] w fun e w' => ∃ cs, e = .returned (.agg cs) ∧ cs.size = 4096 ∧ (∀ i, i < 2048 → cs[i * 2]? = some (.int .u8 ((tS (cellsL ws (ordC ws m)) i : Nat) : Int)) ∧ cs[i * 2 + 1]? = some (.int .u8 ((tN ws m (cellsL ws (ordC ws m)) i : Nat) : Int))) ∧ Keep noBlock w w' := by
 have HH := (show Hid (Bytes w a cap gb off ws ∧ IsCode ws m) from ⟨hB, hc⟩)
 obtain ⟨k, hk⟩ : ∃ k, k = ws.length := ⟨_, rfl⟩
 have HK := (show Hid (k = ws.length) from hk)
 rw [← hk]
 have hm11 := hc.m11
 obtain ⟨b, hb⟩ : ∃ b, b = w.heap.size := ⟨_, rfl⟩
 have c1 : (((w.alloc (.cells #[.int .i64 (m : Int)] 3)).alloc (.cells Tryz.zeroCells207 207)).alloc (.cells #[.int .i64 0] 3)).cell? ⟨b, 0, none⟩ = some (.int .i64 (m : Int)) := by
  rw [hb]
  exact cell_of (alloc_far (alloc_far (World.alloc_heap_new w (.cells #[.int .i64 (m : Int)] 3)) _) _) 0
 rw [hb] at c1
 clear hB hc hk
 refine (callsIn_wide (n := 6)).1 ?_
 refine callsIn_of_wp_marks Tryz.func111 rfl trivial ?_ rfl
 simp only [Tryz.ntmps111, List.size_toArray, List.length_cons, List.length_nil, Nat.reduceAdd, Nat.reduceSub, Array.replicate_succ, Array.replicate_zero, List.push_toArray, List.append_toArray, List.nil_append, List.cons_append]
 gi_wp2_with (refine ⟨trivial, ?_⟩; gi_at_call 133; refine (words_in Fence.wide _ trivial rfl _ _ _ _ _).mono ?_; rintro e w' ⟨rfl, rfl⟩)
 have hI0 : CeI w b a cap k m ws [] (((((w.alloc (.cells #[.int .i64 (m : Int)] 3)).alloc (.cells Tryz.zeroCells207 207)).alloc (.cells #[.int .i64 0] 3)).alloc (.cells #[.slice a k cap] 22)).alloc (.cells #[.int .i64 (m : Int)] 3)) := by
  have o1 := World.alloc_heap_new w (.cells #[.int .i64 (m : Int)] 3)
  have o2 := celA_zeros (w.alloc (.cells #[.int .i64 (m : Int)] 3))
  have o3 := World.alloc_heap_new ((w.alloc (.cells #[.int .i64 (m : Int)] 3)).alloc (.cells Tryz.zeroCells207 207)) (.cells #[.int .i64 0] 3)
  have o4 := World.alloc_heap_new (((w.alloc (.cells #[.int .i64 (m : Int)] 3)).alloc (.cells Tryz.zeroCells207 207)).alloc (.cells #[.int .i64 0] 3)) (.cells #[.slice a k cap] 22)
  have o5 := World.alloc_heap_new ((((w.alloc (.cells #[.int .i64 (m : Int)] 3)).alloc (.cells Tryz.zeroCells207 207)).alloc (.cells #[.int .i64 0] 3)).alloc (.cells #[.slice a k cap] 22)) (.cells #[.int .i64 (m : Int)] 3)
  simp only [World.size_alloc] at o1 o2 o3 o4 o5
  rw [← hb] at o1 o2 o3 o4 o5
  exact ⟨alloc_far (alloc_far (alloc_far (alloc_far o1 _) _) _) _, ((o2.congr (fun i _ => rfl) (fun i _ => rfl)).keep ((((Keep.refl noBlock _).alloc _).alloc _).alloc _) (fun h => h)), alloc_far (alloc_far o3 _) _, alloc_far o4 _, o5, (((((Keep.refl _ w).alloc _).alloc _).alloc _).alloc _).alloc _⟩
 have hsz : (((((w.alloc (.cells #[.int .i64 (m : Int)] 3)).alloc (.cells Tryz.zeroCells207 207)).alloc (.cells #[.int .i64 0] 3)).alloc (.cells #[.slice a k cap] 22)).alloc (.cells #[.int .i64 (m : Int)] 3)).heap.size = b + 5 := by simp only [World.size_alloc]; rw [hb]
 clear c1
 generalize (((((w.alloc (.cells #[.int .i64 (m : Int)] 3)).alloc (.cells Tryz.zeroCells207 207)).alloc (.cells #[.int .i64 0] 3)).alloc (.cells #[.slice a k cap] 22)).alloc (.cells #[.int .i64 (m : Int)] 3)) = W0 at hI0 hsz ⊢
 rw [← hb]
 have HBW := (show Hid (b = w.heap.size) from hb)
 clear hb
 refine range_iter (gf := 145) (by omega) rfl (enters_of Tryz.func145 (by kernel_rfl) rfl) (wordR ws m) (fun p => p = ordC ws m) [] (fun p V => CeI w b a cap k m ws (cellsL ws p) V ∧ b + 5 ≤ V.heap.size)
  (fun l J Jx W _ hJI hD hY h0 => ?iter) (fun i vs i' V h => ?ps) (fun _ _ => False)
  (fun p vs p' a' V => ∃ s rb, s < ws.length ∧ 1 ≤ wt ws s ∧ p = ordTo ws (wt ws s - 1) s ∧ p' = p ++ [s] ∧ b + 5 ≤ rb ∧ V.heap[rb]? = some (.cells #[.int .u64 ((wordX ws s : Nat) : Int), .int .i64 ((m + 1 - wt ws s : Nat) : Int)] 239 (0, 0)) ∧
   a' = { tmps := #[.slice a k cap, .int .i64 (m : Int), undef, .pointer (some ⟨b, 0, none⟩), .pointer (some ⟨b + 1, 0, none⟩), .pointer (some ⟨b + 1 + 1, 0, none⟩), .int .u8 (s : Int), .pointer (some ⟨rb, 0, none⟩), .slice a k cap, .int .i64 (m : Int),
    .func (.func 145) #[] #[.pointer (some ⟨b + 1 + 1 + 1 + 1, 0, none⟩), .pointer (some ⟨b + 1 + 1 + 1, 0, none⟩)], .int .u8 (s : Int), .agg #[.int .u64 ((wordX ws s : Nat) : Int), .int .i64 ((m + 1 - wt ws s : Nat) : Int)],
    undef, undef, undef, undef, undef, undef, undef, undef, undef, undef, undef, undef, undef, undef, undef, undef, undef, undef], defers := [] })
  (fun p U V h hk => ⟨h.1.keepN hk (by have := HBW.out; omega), Nat.le_trans h.2 hk.size⟩) (fun _ _ _ h _ => h.elim) (fun p vs p' a' U V h hk => ?keepA) ⟨hI0, by omega⟩ ?assign ?body ?done (fun _ _ h _ => h.elim)
 case iter =>
  refine (words1_in 5 (by omega) l (b + 1 + 1 + 1) (b + 1 + 1 + 1 + 1) a cap gb off ws m HH.out.2 J Jx (fun p V hp => ?_) hD hY W h0).mono ?_
  ·have := (hJI p V hp).1
   rw [HK.out] at this
   exact ⟨this.bs, this.bm, HH.out.1.keep this.keep (fun _ h => h)⟩
  ·rintro e W' ⟨h1, h2⟩
   exact ⟨h1, h2.imp (fun h => ⟨_, rfl, h⟩) (fun h => h)⟩
 case ps =>
  obtain ⟨s, _, _, _, _, _, rfl⟩ := h
  rfl
 case keepA =>
  obtain ⟨s, rb, h1, h2, h3, h4, h5, h6, h7⟩ := h
  exact ⟨s, rb, h1, h2, h3, h4, h5, hk.obj h6, h7⟩
 case assign =>
  rintro p vs p' V K ⟨s, h1, h2, h3, h4, h5, rfl⟩ hi hK
  unfold wordV
  gi_wp2
  exact hK _ _ ⟨by simp, fun k' o _ ho _ => alloc_far ho _⟩ ⟨hi.1.keeps ((Keep.refl _ V).alloc _), by rw [World.size_alloc]; omega⟩ ⟨s, V.heap.size, h1, h2, h4, h5, hi.2, World.alloc_heap_new V _, rfl⟩
 case body =>
  rintro p vs p' a' V ⟨hi, hsz2⟩ ⟨s, rb, h1, h2, hp, rfl, hrb, hob, rfl⟩
  have hwm := HH.out.2.wt_le s h1
  have hs256 : s < 256 := by have := HH.out.2.len; omega
  have hstart : startW ws s = (cellsL ws p).length := by unfold startW; rw [← hp]; rfl
  have hle := HH.out.2.start_le s h1 h2
  rw [hstart] at hle
  have hp11 : 2 ^ m ≤ 2048 := Nat.pow_le_pow_right (n := 2) (j := 11) (by omega) hm11
  have hcl : cellsL ws (p ++ [s]) = cellsL ws p ++ List.replicate (2 ^ (wt ws s - 1)) s := by rw [cellsL_app, cellsL_one, shN_pos _ (by omega)]
  obtain ⟨c, hc⟩ : ∃ c, c = wt ws s - 1 := ⟨_, rfl⟩
  obtain ⟨N, hN⟩ : ∃ N, N = m + 1 - wt ws s := ⟨_, rfl⟩
  obtain ⟨Q, hQ⟩ : ∃ Q, Q = 2 ^ (wt ws s - 1) := ⟨_, rfl⟩
  rw [← hQ] at hle hcl
  have hmN : (m : Int) - (N : Int) = (c : Int) := by omega
  have hQ2 : (cellsL ws p).length + Q ≤ 2048 := Nat.le_trans hle hp11
  have hQI : wrap64 ((2 : Int) ^ c) = (Q : Int) := by
   have e : (2 : Int) ^ c = (Q : Int) := by rw [hQ, hc]; simp
   rw [e]
   clear e hQ hle hp11
   unfold wrap64; omega
  have HQ := (show Hid (wrap64 ((2 : Int) ^ c) = (Q : Int)) from hQI)
  have r1 := cell_of hob 1
  have c0 := cell_of hi.bx 0
  simp only [List.getElem?_toArray, List.getElem?_cons_zero, List.getElem?_cons_succ] at r1 c0
  rw [← hN] at r1 ⊢
  have HN := (show Hid (N = m + 1 - wt ws s ∧ cellsL ws (p ++ [s]) = cellsL ws p ++ List.replicate Q s ∧ N ≤ 12) from ⟨hN, hcl, by clear hQI hQ hle hp11; omega⟩)
  have hcI : (c : Int) ≤ 10 := by clear hQI hQ hle hp11; omega
  have hNI : (N : Int) ≤ 12 := by clear hQI hQ hle hp11; omega
  have hQ2I : (Q : Int) ≤ 2048 := by clear hQI hQ hle hp11; omega
  have HO := (show Hid (V.heap[rb]? = some (.cells #[.int .u64 ((wordX ws s : Nat) : Int), .int .i64 (N : Int)] 239 (0, 0))) from by rw [hN]; exact hob)
  obtain ⟨P, hP⟩ : ∃ P, P = cellsL ws p := ⟨_, rfl⟩
  rw [← hP] at hi HN hQ2
  clear hle hp11 hcl hQ hstart hp hc hob hN hP hQ2I
  gi_wp2
  clear r1 c0
  gi_loopw [18] (fun v18 wr => ∃ j : Nat, v18 = .int .i64 (j : Int) ∧ j ≤ Q ∧ Hid (CeI w b a cap k m ws (P ++ List.replicate j s) wr ∧ wr.heap[rb]? = some (.cells #[.int .u64 ((wordX ws s : Nat) : Int), .int .i64 (N : Int)] 239 (0, 0)) ∧ KeepsFrom W0.heap.size V wr)) (fun v18 _ => Q - (intOf v18).toNat)
  case atStart => exact ⟨0, rfl, Nat.zero_le _, by simpa using hi, HO.out, KeepsFrom.refl _ _⟩
  case round =>
   clear hi HO
   obtain ⟨j, rfl, hj, HC⟩ := hrel
   by_cases hlt : j < Q
   ·have hltI : (j : Int) < (Q : Int) := by omega
    obtain ⟨hi, ho, hkf⟩ := HC.out
    have hpush := hi.push (by have := HBW.out; omega) s
    rw [← rep_snoc, ← HN.out.1] at hpush
    have hlen : (P ++ List.replicate j s).length = P.length + j := by simp
    obtain ⟨L, hL⟩ : ∃ L, L = (P ++ List.replicate j s).length := ⟨_, rfl⟩
    rw [← hL] at hpush hlen
    have hL2 : L < 2048 := by omega
    have c2 := cell_of hi.next 0
    have f2 := frozen_of hi.next 0
    have r1 := cell_of ho 1
    obtain ⟨t1, t2⟩ := hi.tab.cells L hL2
    have ft1 := hi.tab.frozen (L * 2)
    have ft2 := hi.tab.frozen (L * 2 + 1)
    simp only [List.getElem?_toArray, List.getElem?_cons_zero, List.getElem?_cons_succ] at c2 r1
    rw [← hL] at c2
    have hLI : (L : Int) < 2048 := by omega
    have hsI : (s : Int) < 256 := by omega
    have hks : ∀ x y z : Value, Keep (fun i => i = b + 1 ∨ i = b + 1 + 1) wr (((wr.setCell ⟨b + 1, L * 2, none⟩ x).setCell ⟨b + 1, L * 2 + 1, none⟩ y).setCell ⟨b + 1 + 1, 0, none⟩ z) := fun x y z =>
     (((Keep.refl (fun i => i = b + 1 ∨ i = b + 1 + 1) wr).setCell (p := ⟨b + 1, L * 2, none⟩) (fun _ => .inl rfl) _).setCell (p := ⟨b + 1, L * 2 + 1, none⟩) (fun _ => .inl rfl) _).setCell (p := ⟨b + 1 + 1, 0, none⟩) (fun _ => .inr rfl) _
    have HP := (show Hid (CeI w b a cap k m ws (P ++ List.replicate (j + 1) s) (((wr.setCell ⟨b + 1, L * 2, none⟩ (.int .u8 (s : Int))).setCell ⟨b + 1, L * 2 + 1, none⟩ (.int .u8 (N : Int))).setCell ⟨b + 1 + 1, 0, none⟩ (.int .i64 ((L + 1 : Nat) : Int))) ∧ (((wr.setCell ⟨b + 1, L * 2, none⟩ (.int .u8 (s : Int))).setCell ⟨b + 1, L * 2 + 1, none⟩ (.int .u8 (N : Int))).setCell ⟨b + 1 + 1, 0, none⟩ (.int .i64 ((L + 1 : Nat) : Int))).heap[rb]? = some (.cells #[.int .u64 ((wordX ws s : Nat) : Int), .int .i64 (N : Int)] 239 (0, 0)) ∧
      KeepsFrom W0.heap.size V (((wr.setCell ⟨b + 1, L * 2, none⟩ (.int .u8 (s : Int))).setCell ⟨b + 1, L * 2 + 1, none⟩ (.int .u8 (N : Int))).setCell ⟨b + 1 + 1, 0, none⟩ (.int .i64 ((L + 1 : Nat) : Int)))) from
     ⟨hpush, (hks _ _ _).obj ho (by omega), hkf.trans ((((KeepsOthers.setCell _ _ _).from _).trans ((KeepsOthers.setCell _ _ _).from _)).trans ((KeepsOthers.setCell _ _ _).from _))⟩)
    have hk2 : Keep (fun i => i = b + 1) wr ((wr.setCell ⟨b + 1, L * 2, none⟩ (.int .u8 (s : Int))).setCell ⟨b + 1, L * 2 + 1, none⟩ (.int .u8 (N : Int))) :=
     ((Keep.refl (fun i => i = b + 1) wr).setCell (p := ⟨b + 1, L * 2, none⟩) (fun _ => rfl) _).setCell (p := ⟨b + 1, L * 2 + 1, none⟩) (fun _ => rfl) _
    have o3 := hk2.obj hi.next (by omega)
    have c3 := cell_of o3 0
    have f3 := frozen_of o3 0
    simp only [List.getElem?_toArray, List.getElem?_cons_zero] at c3
    rw [← hL] at c3
    clear hpush hi ho hkf hks hL hlen HC hk2 o3
    gi_wp2
    go_roundw
    case rel => exact ⟨j + 1, by go_num, by omega, HP.out⟩
    case measure => simp [intOf]; omega
   ·obtain rfl : j = Q := by omega
    have hltI : ¬ (j : Int) < (j : Int) := by omega
    gi_wp2
    obtain ⟨hi, ho, hkf⟩ := HC.out
    exact ⟨hsz ▸ hkf, by rw [HN.out.2.1]; exact hi, Nat.le_trans hsz2 hkf.size⟩
 case done =>
  rintro p V rfl ⟨hi, hsz2⟩ hD
  obtain ⟨cs, o1, o2, o3⟩ := hi.tab.obj
  have h1 := cells_one o2 o3
  have hs := setRow_self V (b + 1) cs 207 (0, 0) o1
  have hi105 : (Tryz.prog.info? 207).map (·.size) = some cs.size := by rw [o2]; exact info105
  have HI := (show Hid (V.heap[b + 1]? = some (.cells cs 207 (0, 0)) ∧ cs.size = 4096 ∧ (∀ i, i < 2048 → cs[i * 2]? = some (.int .u8 ((tS (cellsL ws (ordC ws m)) i : Nat) : Int)) ∧ cs[i * 2 + 1]? = some (.int .u8 ((tN ws m (cellsL ws (ordC ws m)) i : Nat) : Int))) ∧ Keep noBlock w V ∧ V.heap[W0.heap.size]? = some (.deferred (some []))) from ⟨o1, o2, o3, hi.keep, hD⟩)
  have HO := (show Hid _ from o1)
  have H1 := (show Hid _ from h1)
  have HS := (show Hid _ from hs)
  have HJ := (show Hid _ from hi105)
  clear hi o1 o2 o3 h1 hD hI0 hs hi105
  rename_i hKq
  refine hKq _ _ (wpIn_wide.2 ?_)
  go_wp2_with (first | (refine wpList_load_row rfl 207 (.tmp 4) rfl (b + 1) rfl 207 cs (0, 0) _ HO.out Tryz.underlying207 rfl HJ.out ?_) | (refine wpList_store_row rfl 207 (.tmp 4) (.tmp 30) rfl (b + 1) cs rfl rfl 207 cs HO.out HJ.out rfl H1.out ?_; rw [HS.out]))
  obtain ⟨o1, o2, o3, hk, hD⟩ := HI.out
  refine ⟨by simp, .inl ⟨_, _, rfl, run_takeDeferred hD, ?_⟩⟩
  have hkp : Keep (fun j => j = W0.heap.size) V (V.putObj W0.heap.size (.deferred none)) := (Keep.refl (fun j => j = W0.heap.size) V).putObj _ _ (fun _ => rfl)
  exact ⟨_, results_cell_row rfl _ _ (b + 1) 207 cs (0, 0) _ rfl (hkp.obj o1 (by omega)) Tryz.underlying207 rfl (by rw [o2]; exact info105), cs, rfl, o2, o3, hk.trans hkp (fun i hi e => by have := HBW.out; omega)⟩

end Go.Proofs.YtnjilcokkhodmaaGreatDoor

namespace Go.Proofs.YtnjilcokkhodmaaGreatDoor
open Go.RowKit Go.Shelf
set_option linter.unusedVariables false

def posU (ws : List Nat) (m : Nat) (bs : List Nat) : Nat → Nat
 | 0 => 0
 | k + 1 => posU ws m bs k + (m + 1 - wt ws (symX ws m (strm bs (posU ws m bs k) m)))
def symU (ws : List Nat) (m : Nat) (bs : List Nat) (k : Nat) : Nat := symX ws m (strm bs (posU ws m bs k) m)
theorem posU_succ (ws : List Nat) (m : Nat) (bs : List Nat) (k : Nat) : posU ws m bs (k + 1) = posU ws m bs k + (m + 1 - wt ws (symU ws m bs k)) := rfl
theorem posU_le (ws : List Nat) (m : Nat) (bs : List Nat) (k : Nat) : posU ws m bs k ≤ k * (m + 1) := by
 induction k with
 | zero => simp [posU]
 | succ k ih => rw [posU_succ, Nat.succ_mul]; omega
theorem IsCode.cell {ws : List Nat} {m : Nat} (h : IsCode ws m) (x : Nat) (hx : x < 2 ^ m) : tS (cellsL ws (ordC ws m)) x = symX ws m x ∧ tN ws m (cellsL ws (ordC ws m)) x = m + 1 - wt ws (symX ws m x) := by
 refine ⟨rfl, ?_⟩
 have : (cellsL ws (ordC ws m)).length = 2 ^ m := h.all
 unfold tN
 rw [if_pos (by omega)]
 rfl
def RowK (W : World) (tb n : Nat) (f : Nat → Nat) (k : Nat) : Prop := ∃ cs, W.heap[tb]? = some (.cells cs 5 (0, 0)) ∧ cs.size = n ∧ (∀ j, j < n → ∃ x : Nat, cs[j]? = some (.int .u8 (x : Int))) ∧ ∀ j, j < k → cs[j]? = some (.int .u8 ((f j : Nat) : Int))
theorem RowK.keep {W W' : World} {S : Nat → Prop} {tb n k : Nat} {f : Nat → Nat} (h : RowK W tb n f k) (hk : Keep S W W') (hS : ¬ S tb) : RowK W' tb n f k := by
 obtain ⟨cs, h1, h2⟩ := h
 exact ⟨cs, hk.obj h1 hS, h2⟩
theorem RowK.step {W : World} {tb n k : Nat} {f : Nat → Nat} (h : RowK W tb n f k) (hk : k < n) : RowK (W.setCell ⟨tb, k, none⟩ (.int .u8 ((f k : Nat) : Int))) tb n f (k + 1) := by
 obtain ⟨cs, h1, h2, h3, h4⟩ := h
 refine ⟨_, set_obj h1 _ _, by rw [Array.size_setIfInBounds, h2], fun j hj => ?_, fun j hj => ?_⟩
 ·rw [Array.getElem?_setIfInBounds]
  by_cases e : k = j
  ·subst e; rw [if_pos rfl, if_pos (by omega)]; exact ⟨_, rfl⟩
  ·rw [if_neg e]; exact h3 j hj
 ·rw [Array.getElem?_setIfInBounds]
  by_cases e : k = j
  ·subst e; rw [if_pos rfl, if_pos (by omega)]
  ·rw [if_neg e]; exact h4 j (by omega)
theorem RowK.cell {W : World} {tb n k : Nat} {f : Nat → Nat} (h : RowK W tb n f k) (j : Nat) (hj : j < n) : ∃ x : Nat, W.cell? ⟨tb, j, none⟩ = some (.int .u8 (x : Int)) := by
 obtain ⟨cs, h1, h2, h3, h4⟩ := h
 obtain ⟨x, hx⟩ := h3 j hj
 exact ⟨x, by rw [cell_of h1, hx]⟩
theorem RowK.frozen {W : World} {tb n k : Nat} {f : Nat → Nat} (h : RowK W tb n f k) (j : Nat) : W.frozen? ⟨tb, j, none⟩ = false := by
 obtain ⟨cs, h1, _⟩ := h
 exact frozen_of h1 j
theorem rowK_new (w : World) (n : Nat) (f : Nat → Nat) : RowK (w.alloc (.cells (u8s (List.replicate n 0)).toArray 5)) w.heap.size n f 0 :=
 ⟨_, World.alloc_heap_new w _, by simp [u8s], fun j hj => ⟨0, by simp [u8s, hj]⟩, fun j hj => by omega⟩
theorem RowK.owns {W : World} {tb n : Nat} {f : Nat → Nat} (h : RowK W tb n f n) (hn : n ≤ 1099511627776) : W.ownsRow 0 5 1 (.slice (some ⟨tb, 0, none⟩) n n) n (u8s ((List.range n).map f)) := by
 obtain ⟨cs, h1, h2, h3, h4⟩ := h
 have hl : ((List.range n).map f).length = n := by simp
 have e : cs.toList.take n = u8s ((List.range n).map f) := by
  refine List.ext_getElem? fun j => ?_
  rw [List.getElem?_take]
  by_cases hj : j < n
  ·rw [if_pos hj, Array.getElem?_toList, h4 j hj, u8s_at _ j (by omega)]
   simp [hj]
  ·rw [if_neg hj, List.getElem?_eq_none (by rw [u8s_length, hl]; omega)]
 have := owns_mk (M := (List.range n).map f) h1 (by rw [hl]; exact Nat.le_refl n) (show n ≤ maxLen by unfold maxLen; omega) h2 (by rw [hl]; exact e)
 rw [hl] at this
 exact this

theorem ahead_next (x y N m : Nat) (hx : x < 2 ^ m) (hm : m ≤ 11) (hN : N ≤ 11) (hy : y < 2 ^ N) :
  bits .and .u64 (bits .or .u64 (IntKind.u64.wrap ((x : Int) * 2 ^ N)) (y : Int)) (IntKind.u64.wrap (IntKind.u64.wrap (2 ^ m) - 1)) = (((x * 2 ^ N + y) % 2 ^ m : Nat) : Int) := by
 have hm2 : 2 ^ m ≤ 2 ^ 11 := Nat.pow_le_pow_right (by omega) hm
 have hN2 : 2 ^ N ≤ 2 ^ 11 := Nat.pow_le_pow_right (by omega) hN
 have hm0 := Nat.two_pow_pos m
 have hx2 : x < 4096 := by omega
 have hxN : x * 2 ^ N ≤ 4096 * 2 ^ 11 := Nat.mul_le_mul (by omega) hN2
 have e1 : IntKind.u64.wrap ((x : Int) * 2 ^ N) = ((x * 2 ^ N : Nat) : Int) := by
  have e : (x : Int) * 2 ^ N = ((x * 2 ^ N : Nat) : Int) := by simp
  rw [e]
  generalize x * 2 ^ N = z at hxN
  clear hx hy hm2 hN2 hm0
  rw [IntKind.wrap_u64]; omega
 have e2 : IntKind.u64.wrap (IntKind.u64.wrap (2 ^ m) - 1) = ((2 ^ m - 1 : Nat) : Int) := by
  have e : (2 : Int) ^ m = ((2 ^ m : Nat) : Int) := by simp
  rw [e]
  clear hx e
  generalize 2 ^ m = z at hm2 hm0
  rw [IntKind.wrap_u64, IntKind.wrap_u64]; omega
 rw [e1, e2, or_join x y N hx2 (by omega) hy]
 refine and_mask _ m ?_ (by omega)
 have : y < 2048 := Nat.lt_of_lt_of_le hy hN2
 omega

set_option maxRecDepth 100000 in
set_option maxHeartbeats 4000000 in
theorem readWords_any (rb g : Nat) (bs : List Nat) (a : Option Addr) (cap gb off : Nat) (ws : List Nat) (m n : Nat) (w : World) (hR : At w rb g bs 0) (hB : Bytes w a cap gb off ws) (hc : IsCode ws m) (hn : n ≤ 131072) (hgb : gb ≠ rb) :
  Calls Tryz.prog 96 #[.pointer (some ⟨rb, 0, none⟩), .slice a ws.length cap, .int .i64 (m : Int), .int .i64 (n : Int)] w fun e w' => ∃ v, e = .returned v ∧ w'.ownsRow 0 5 1 v n (u8s ((List.range n).map (symU ws m bs))) ∧ At w' rb g bs (posU ws m bs n + m) ∧ Keep (fun k => k = rb) w w' ∧ ∀ k, v.ownBlock = some k → w.heap.size ≤ k := by
 have HC := (show Hid (Calls Tryz.prog 111 _ w _) from cellsOf_any a cap gb off ws m w hB hc)
 have HH := (show Hid (At w rb g bs 0 ∧ IsCode ws m) from ⟨hR, hc⟩)
 have hm11 := hc.m11
 obtain ⟨k, hk⟩ : ∃ k, k = ws.length := ⟨_, rfl⟩
 rw [← hk] at HC ⊢
 have hmk : ∀ W : World, _ := fun W => run_make_u8 n n (Nat.le_refl _) (by omega) W
 have hnI : (n : Int) ≤ 131072 := by omega
 clear hR hB hc hk
 go_enter Tryz.func96, Tryz.ntmps96
 go_wp2_with fail
 refine HC.out.mono ?_
 rintro e w1 ⟨cs, rfl, h2, h3, hK1⟩
 have h4 := cells_one h2 h3
 have hz : Tryz.zeroCells207.size = cs.size := by rw [h2, zero105, List.size_toArray]; exact (flat2 2048 _ _).1
 have hi105 : (Tryz.prog.info? 207).map (·.size) = some cs.size := by rw [h2]; exact info105
 have hR1 : At w1 rb g bs 0 := HH.out.1.keep hK1 (fun h => h) (fun h => h)
 have HS := (show Hid (Tryz.zeroCells207.size = cs.size ∧ (Tryz.prog.info? 207).map (·.size) = some cs.size ∧ cs.all (·.oneCell') = true) from ⟨hz, hi105, h4⟩)
 have HT := (show Hid (cs.size = 4096 ∧ (∀ i, i < 2048 → cs[i * 2]? = some (.int .u8 ((tS (cellsL ws (ordC ws m)) i : Nat) : Int)) ∧ cs[i * 2 + 1]? = some (.int .u8 ((tN ws m (cellsL ws (ordC ws m)) i : Nat) : Int)))) from ⟨h2, h3⟩)
 have HK1 := (show Hid (Keep noBlock w w1) from hK1)
 clear hz hi105 h2 h3 h4 hK1 HC
 go_wp2_with (refine wpList_store_row rfl 207 (.tmp 9) (.tmp 16) rfl w1.heap.size cs rfl rfl 207 Tryz.zeroCells207 (World.alloc_heap_new w1 _) HS.out.2.1 HS.out.1 HS.out.2.2 ?_; rw [World.setRow_alloc_new])
 obtain ⟨cb, hcb⟩ : ∃ cb, cb = w1.heap.size := ⟨_, rfl⟩
 have hkA : Keep noBlock w1 ((w1.alloc (.cells cs 207)).alloc (.cells (u8s (List.replicate n 0)).toArray 5)) := ((Keep.refl _ w1).alloc _).alloc _
 have hCel : CelA ((w1.alloc (.cells cs 207)).alloc (.cells (u8s (List.replicate n 0)).toArray 5)) cb (tS (cellsL ws (ordC ws m))) (tN ws m (cellsL ws (ordC ws m))) := by
  rw [hcb]
  exact ⟨cs, alloc_far (World.alloc_heap_new w1 _) _, HT.out⟩
 have hRow : RowK ((w1.alloc (.cells cs 207)).alloc (.cells (u8s (List.replicate n 0)).toArray 5)) (cb + 1) n (symU ws m bs) 0 := by
  have := rowK_new (w1.alloc (.cells cs 207)) n (symU ws m bs)
  rw [World.size_alloc, ← hcb] at this
  exact this
 have hszA : ((w1.alloc (.cells cs 207)).alloc (.cells (u8s (List.replicate n 0)).toArray 5)).heap.size = cb + 2 := by simp only [World.size_alloc]; rw [hcb]
 have hrbw : rb < w.heap.size ∧ g < w.heap.size := by
  obtain ⟨sa, cp, _, ho⟩ := HH.out.1.is.obj
  exact ⟨obj_lt ho, HH.out.1.is.lt⟩
 have hcbw : w.heap.size ≤ cb := by rw [hcb]; exact HK1.out.size
 refine ((hR1.keep hkA (fun h => h) (fun h => h)).bits m (by omega) (by omega)).mono ?_
 rintro e w2 ⟨rfl, hR2, hK2⟩
 rw [← hcb]
 have HF := (show Hid (CelA w2 cb (tS (cellsL ws (ordC ws m))) (tN ws m (cellsL ws (ordC ws m))) ∧ RowK w2 (cb + 1) n (symU ws m bs) 0 ∧ At w2 rb g bs (posU ws m bs 0 + m) ∧ Keep (fun k => k = rb) w w2) from
  ⟨hCel.keep hK2 (by omega), hRow.keep hK2 (by omega), hR2, ((HK1.out.trans' hkA).mono (fun _ _ h => h.elim)).trans hK2 (fun _ _ h => h)⟩)
 have HZ := (show Hid (rb < w.heap.size ∧ g < w.heap.size ∧ w.heap.size ≤ cb) from ⟨hrbw.1, hrbw.2, hcbw⟩)
 have HP0 := (show Hid (strm bs 0 m = strm bs (posU ws m bs 0) m) from rfl)
 clear hkA hCel hRow hszA hR1 hR2 hK2 hcb HS HT HK1 hrbw hcbw
 go_wp2_with fail
 go_loopw [11, 24] (fun v11 v24 wr => ∃ (i x : Nat), v24 = .int .i64 (i : Int) ∧ v11 = .int .u64 (x : Int) ∧ i ≤ n ∧ Hid (x = strm bs (posU ws m bs i) m ∧ CelA wr cb (tS (cellsL ws (ordC ws m))) (tN ws m (cellsL ws (ordC ws m))) ∧ RowK wr (cb + 1) n (symU ws m bs) i ∧ At wr rb g bs (posU ws m bs i + m) ∧ Keep (fun k => k = rb) w wr)) (fun _ v24 _ => n - (intOf v24).toNat)
 case atStart => exact ⟨0, strm bs 0 m, rfl, rfl, Nat.zero_le _, HP0.out, HF.out⟩
 case round =>
  clear HF HP0
  obtain ⟨i, x, rfl, rfl, hi, HC⟩ := hrel
  by_cases hlt : i < n
  ·have hltI : (i : Int) < (n : Int) := by omega
   obtain ⟨hx, hCel, hRow, hAt, hKw⟩ := HC.out
   have hx2m : x < 2 ^ m := by rw [hx]; exact strm_lt _ _ _
   have hp11 : 2 ^ m ≤ 2048 := Nat.pow_le_pow_right (n := 2) (j := 11) (by omega) hm11
   have hx2 : x < 2048 := Nat.lt_of_lt_of_le hx2m hp11
   obtain ⟨e1, e2⟩ := HH.out.2.cell x hx2m
   obtain ⟨c1, c2⟩ := hCel.cells x hx2
   rw [e1] at c1
   rw [e2] at c2
   have hsy : symU ws m bs i = symX ws m x := by rw [hx]; rfl
   obtain ⟨hs1, hs2, -, -⟩ := HH.out.2.sym x hx2m
   have hs256 : symX ws m x < 256 := by have := HH.out.2.len; omega
   have hwm := HH.out.2.wt_le _ hs1
   obtain ⟨N, hN⟩ : ∃ N, N = m + 1 - wt ws (symX ws m x) := ⟨_, rfl⟩
   have hN12 : 1 ≤ N ∧ N ≤ m := by clear hx2m hp11; omega
   have hps : posU ws m bs (i + 1) = posU ws m bs i + N := by rw [posU_succ, hsy, hN]
   have hpl := posU_le ws m bs i
   have hpl2 : i * (m + 1) ≤ 131072 * 12 := Nat.mul_le_mul (by omega) (by omega)
   have hst := hRow.step hlt
   rw [hsy] at hst
   rw [← hN] at c2
   obtain ⟨sy, hsyy⟩ : ∃ sy, sy = symX ws m x := ⟨_, rfl⟩
   rw [← hsyy] at c1 hst hs256
   obtain ⟨nb, hnb⟩ : ∃ nb, nb = wr.heap.size := ⟨_, rfl⟩
   have hcbn : cb + 1 < nb := by obtain ⟨cs0, h0, _⟩ := hRow; rw [hnb]; exact obj_lt h0
   have hz := HZ.out
   have hkn : Keep noBlock wr (wr.alloc (.cells #[.int .u8 (sy : Int), .int .u8 (N : Int)] 206)) := (Keep.refl _ wr).alloc _
   have hRow2 := hRow.keep hkn (fun h => h)
   obtain ⟨x0, c5⟩ := hRow2.cell i hlt
   have f5 := hRow2.frozen i
   have hst2 := hRow2.step hlt
   rw [hsy, ← hsyy] at hst2
   have on := World.alloc_heap_new wr (.cells #[.int .u8 (sy : Int), .int .u8 (N : Int)] 206)
   rw [← hnb] at on
   have hks : Keep (fun k => k = cb + 1) (wr.alloc (.cells #[.int .u8 (sy : Int), .int .u8 (N : Int)] 206)) ((wr.alloc (.cells #[.int .u8 (sy : Int), .int .u8 (N : Int)] 206)).setCell ⟨cb + 1, i, none⟩ (.int .u8 (sy : Int))) := (Keep.refl (fun k => k = cb + 1) _).setCell (p := ⟨cb + 1, i, none⟩) (fun _ => rfl) _
   have HW4 := (show Hid (∀ W4, W4 = ((wr.alloc (.cells #[.int .u8 (sy : Int), .int .u8 (N : Int)] 206)).setCell ⟨cb + 1, i, none⟩ (.int .u8 (sy : Int))) → W4.heap[nb]? = some (.cells #[.int .u8 (sy : Int), .int .u8 (N : Int)] 206 (0, 0)) ∧ CelA W4 cb (tS (cellsL ws (ordC ws m))) (tN ws m (cellsL ws (ordC ws m))) ∧ RowK W4 (cb + 1) n (symU ws m bs) (i + 1) ∧ At W4 rb g bs (posU ws m bs i + m) ∧ Keep (fun k => k = rb) w W4) from by
    rintro W4 rfl
    exact ⟨hks.obj on (by omega), (hCel.keep hkn (fun h => h)).keep hks (by omega), hst2, (hAt.keep hkn (fun h => h) (fun h => h)).keep hks (by omega) (by omega), ((hKw.trans hkn (fun _ _ h => h.elim)).trans hks (fun i hi e => by omega))⟩)
   have HX := (show Hid (x = strm bs (posU ws m bs i) m ∧ posU ws m bs (i + 1) = posU ws m bs i + N ∧ posU ws m bs i ≤ 1572864 ∧ x < 2 ^ m) from ⟨hx, hps, Nat.le_trans hpl (Nat.le_trans hpl2 (by decide)), hx2m⟩)
   have hxI : (x : Int) < 2048 := by clear hx2m hp11; omega
   have hNI : (N : Int) ≤ 11 := by clear hx2m hp11; omega
   have hsI : (sy : Int) < 256 := by clear hx2m hp11; omega
   clear hx hCel hRow hAt hKw hx2m hp11 e1 e2 hsy hs1 hs2 hwm hN hps hpl hpl2 hst hsyy hkn hRow2 hst2 hks HC on hz
   have HNB := (show Hid _ from hnb)
   clear hnb
   go_wp2_with fail
   generalize hW4 : (wr.alloc (.cells #[.int .u8 (sy : Int), .int .u8 (N : Int)] 206)).setCell ⟨cb + 1, i, none⟩ (.int .u8 (sy : Int)) = W4
   rw [← HNB.out]
   clear HNB
   obtain ⟨q1, q2, q3, q4, q5⟩ := HW4.out W4 hW4.symm
   have d2 := cell_of q1 1
   simp only [List.getElem?_toArray, List.getElem?_cons_zero, List.getElem?_cons_succ] at d2
   have HB := (show Hid (∀ q, Calls Tryz.prog 68 #[.pointer (some ⟨rb, 0, none⟩), .int .i64 (N : Int)] (W4.drewN q) _) from fun q => (q4.drewN q).bits N (by omega) (by have := HX.out; omega))
   have HQ := (show Hid (W4.heap[nb]? = some (.cells #[.int .u8 (sy : Int), .int .u8 (N : Int)] 206 (0, 0)) ∧ CelA W4 cb (tS (cellsL ws (ordC ws m))) (tN ws m (cellsL ws (ordC ws m))) ∧ RowK W4 (cb + 1) n (symU ws m bs) (i + 1) ∧ Keep (fun k => k = rb) w W4 ∧ rb < cb ∧ rb < nb) from ⟨q1, q2, q3, q5, by have := HZ.out; omega, by have := HZ.out; omega⟩)
   have HW := (show Hid (IntKind.i64.wrap (N : Int) = (N : Int)) from (by rw [IntKind.wrap_i64]; omega : IntKind.i64.wrap (N : Int) = (N : Int)))
   clear HW4 hW4 q1 q2 q3 q4 q5 c1 c2 c5 f5
   go_region_held3 (fun W => W.cell? ⟨nb, 1, none⟩ = some (.int .u8 (N : Int))) (first | exact d2 | exact d3) ((first
    | (go_at_call 68; rw [HW.out]; refine (HB.out 1).mono ?_; rintro e w3 ⟨rfl, hR3, hK3⟩; have HD3 := (show Hid (At w3 rb g bs (posU ws m bs i + m + N) ∧ Keep (fun k => k = rb) (W4.drewN 1) w3) from ⟨hR3, hK3⟩); clear hR3 hK3; have d3 : w3.cell? ⟨nb, 1, none⟩ = some (.int .u8 (N : Int)) := by have := cell_of (HD3.out.2.obj HQ.out.1 (by have := HQ.out; omega)) 1; simpa using this)))
   have hyl := strm_lt bs (posU ws m bs i + m) N
   have hnx := ahead_next x _ N m HX.out.2.2.2 hm11 (by omega) hyl
   have hsh := strm_shift bs (posU ws m bs i) m N
   rw [← HX.out.1] at hsh
   rw [hsh, ← HX.out.2.1] at hnx
   rw [hnx]
   clear hnx hsh hyl
   go_wp2_with fail
   go_roundw
   case rel =>
    obtain ⟨q1, q2, q3, q5, q6, q7⟩ := HQ.out
    obtain ⟨hA3, hK3⟩ := HD3.out
    have hK3' : Keep (fun k => k = rb) W4 w3 := ((keep_drewN W4 1).mono (fun _ _ h => h.elim)).trans hK3 (fun _ _ h => h)
    exact ⟨i + 1, _, by go_num, rfl, by omega, rfl, q2.keep hK3' (by omega), q3.keep hK3' (by omega), by rw [HX.out.2.1, show posU ws m bs i + N + m = posU ws m bs i + m + N from by omega]; exact hA3, q5.trans hK3' (fun _ _ h => h)⟩
   case measure => simp [intOf]; omega
  ·obtain rfl : i = n := by omega
   have hltI : ¬ (i : Int) < (i : Int) := by omega
   go_wp2_with fail
   go_ret
   obtain ⟨hx, hCel, hRow, hAt, hKw⟩ := HC.out
   exact ⟨_, rfl, hRow.owns (by omega), hAt, hKw, fun j hj => by
    obtain rfl : cb + 1 = j := by simpa [Value.ownBlock] using hj
    have := HZ.out; omega⟩

end Go.Proofs.YtnjilcokkhodmaaGreatDoor

namespace Go.Proofs.YtnjilcokkhodmaaGreatDoor
open Go.RowKit Go.Shelf
set_option linter.unusedVariables false

theorem made_is {ws : List Nat} {m : Nat} (hc : IsCode ws m) {a : Option Addr} {cap gb off : Nat} {W : World} (hB : Bytes W a cap gb off ws) : Calls Tryz.prog 95 #[.slice a ws.length cap] W fun e w' => e = .returned (.tuple #[.int .i64 (m : Int), .bool true]) ∧ w' = W := by
 refine (makeCode_any a cap gb off ws W hB).mono ?_
 rintro e w' ⟨l, rfl, h, rfl⟩
 rw [hc.codeB.1] at h ⊢
 rw [h rfl, hc.codeM]
 exact ⟨rfl, rfl⟩
theorem made_not {ws : List Nat} (hc : codeB ws = false) {a : Option Addr} {cap gb off : Nat} {W : World} (hB : Bytes W a cap gb off ws) : Calls Tryz.prog 95 #[.slice a ws.length cap] W fun e w' => ∃ l, e = .returned (.tuple #[.int .i64 l, .bool false]) ∧ w' = W := by
 refine (makeCode_any a cap gb off ws W hB).mono ?_
 rintro e w' ⟨l, rfl, h, rfl⟩
 rw [hc]
 exact ⟨l, rfl, rfl⟩

theorem newB_bad (a : Option Addr) (cap gb off : Nat) (bs : List Nat) (w : World) (hB : Bytes w a cap gb off bs) (hl : bs.length ≤ 140737488351232) (h0 : bs[bs.length - 1]?.getD 0 = 0) :
    Calls Tryz.prog 67 #[.slice a bs.length cap] w fun e w' => e = .returned (.tuple #[.pointer none, .int .i64 11]) ∧ w' = w := by
  cases hn : bs.length with
  | zero => exact Tl.new_none a cap w
  | succ k =>
    obtain rfl := hB.here (i := k) (by omega)
    refine Tl.new_zero gb off cap k w (by omega) ?_
    rw [hB.cells k (by omega)]
    rw [hn, Nat.add_sub_cancel] at h0
    rw [h0]; rfl
theorem newB_good (a : Option Addr) (cap gb off : Nat) (bs : List Nat) (w : World) (hB : Bytes w a cap gb off bs) (hl : bs.length ≤ 140737488351232) (h0 : bs[bs.length - 1]?.getD 0 ≠ 0) :
    Calls Tryz.prog 67 #[.slice a bs.length cap] w fun e w' => ∃ rb g, e = .returned (.tuple #[.pointer (some ⟨rb, 0, none⟩), .int .i64 0]) ∧ w.heap.size ≤ rb ∧ w.heap.size ≤ g ∧ At w' rb g bs 0 ∧ Keep noBlock w w' := by
  cases hn : bs.length with
  | zero => rw [List.length_eq_zero_iff.1 hn] at h0; simp at h0
  | succ k =>
    obtain rfl := hB.here (i := k) (by omega)
    rw [hn, Nat.add_sub_cancel] at h0
    refine (Tl.new_mark gb off cap k _ bs hn (by omega) hB.lt w rfl h0 hB.cells).mono ?_
    rintro e w' ⟨rb, g, rfl, h1, h2, h3, h4⟩
    exact ⟨rb, g, rfl, h1, h2, ⟨by simpa using h3, by decide⟩, h4⟩

def unpOk (ws : List Nat) (m : Nat) (bs : List Nat) (n : Nat) : Bool := decide (bs[bs.length - 1]?.getD 0 ≠ 0 ∧ posU ws m bs n = Tl.tailLen bs)
def UnpPost (ws : List Nat) (m : Nat) (bs : List Nat) (n : Nat) (w : World) (e : Ending) (w' : World) : Prop :=
 Keep noBlock w w' ∧ ((unpOk ws m bs n = true ∧ ∃ v, e = .returned (.tuple #[v, .int .i64 0]) ∧ w'.ownsRow 0 5 1 v n (u8s ((List.range n).map (symU ws m bs)))) ∨ (unpOk ws m bs n = false ∧ e = .returned (.tuple #[.slice none 0 0, .int .i64 11])))

set_option maxRecDepth 100000 in
set_option maxHeartbeats 4000000 in
theorem unpack_any (a : Option Addr) (cap gb off : Nat) (ws : List Nat) (m : Nat) (a2 : Option Addr) (cap2 gb2 off2 : Nat) (bs : List Nat) (n : Nat) (w : World) (hB : Bytes w a cap gb off ws) (hB2 : Bytes w a2 cap2 gb2 off2 bs) (hc : IsCode ws m) (hl : bs.length ≤ 140737488351232) (hn : n ≤ 131072) :
  Calls Tryz.prog 77 #[.slice a ws.length cap, .slice a2 bs.length cap2, .int .i64 (n : Int)] w fun e w' => UnpPost ws m bs n w e w' := by
 have HM := (show Hid (Calls Tryz.prog 95 _ w _) from made_is hc hB)
 have hm11 := hc.m11
 have hn1 : ¬ (n : Int) < 0 := by omega
 have hn2 : ¬ (131072 : Int) < (n : Int) := by omega
 by_cases h0 : bs[bs.length - 1]?.getD 0 = 0
 ·have HN := (show Hid (Calls Tryz.prog 67 _ w _) from newB_bad a2 cap2 gb2 off2 bs w hB2 hl h0)
  have HB := (show Hid (unpOk ws m bs n = false) from decide_eq_false (fun h => h.1 h0))
  generalize bs.length = n2 at *
  generalize ws.length = n1 at *
  clear hB hB2 hc hl
  go_enter Tryz.func77, Tryz.ntmps77
  go_wp2_with (first | (go_at_call 95; refine HM.out.mono ?_; rintro e w' ⟨rfl, rfl⟩) | (go_at_call 67; refine HN.out.mono ?_; rintro e w' ⟨rfl, rfl⟩))
  go_ret2
  exact ⟨Keep.refl _ _, .inr ⟨HB.out, rfl⟩⟩
 ·have HN := (show Hid (Calls Tryz.prog 67 _ w _) from newB_good a2 cap2 gb2 off2 bs w hB2 hl h0)
  have HH := (show Hid (Bytes w a cap gb off ws ∧ IsCode ws m ∧ bs[bs.length - 1]?.getD 0 ≠ 0 ∧ n ≤ 131072) from ⟨hB, hc, h0, hn⟩)
  have hgw : ws ≠ [] → gb < w.heap.size := fun h => hB.block h
  have hwne : ws ≠ [] := by have := hc.len2; intro e; rw [e] at this; simp at this
  have HG := (show Hid (gb < w.heap.size) from hgw hwne)
  have hTl := Tl.tailLen_le bs hB2.lt
  have hpl := posU_le ws m bs n
  have hpl2 : n * (m + 1) ≤ 131072 * 12 := Nat.mul_le_mul hn (by omega)
  have HT := (show Hid (Tl.tailLen bs < 1125899906842624 ∧ posU ws m bs n ≤ 1572864) from ⟨by omega, Nat.le_trans hpl (Nat.le_trans hpl2 (by decide))⟩)
  obtain ⟨n1, hn1'⟩ : ∃ n1, n1 = ws.length := ⟨_, rfl⟩
  obtain ⟨n2, hn2'⟩ : ∃ n2, n2 = bs.length := ⟨_, rfl⟩
  have HL := (show Hid (n1 = ws.length) from hn1')
  rw [← hn1'] at HM ⊢
  rw [← hn2'] at HN ⊢
  clear hB hB2 hc hl h0 hgw hwne hTl hpl hpl2 hn1' hn2' hn
  go_enter Tryz.func77, Tryz.ntmps77
  go_wp2_with (first | (go_at_call 95; refine HM.out.mono ?_; rintro e w' ⟨rfl, rfl⟩))
  refine HN.out.mono ?_
  rintro e w1 ⟨rb, g, rfl, h1, h2, hA, hK1⟩
  have HR := (show Hid (Calls Tryz.prog 96 _ w1 _) from readWords_any rb g bs a cap gb off ws m n w1 hA (HH.out.1.keep hK1 (fun _ h => h)) HH.out.2.1 HH.out.2.2.2 (by have := HG.out; omega))
  rw [← HL.out] at HR
  clear hA
  go_wp2_with fail
  refine HR.out.mono ?_
  rintro e w2 ⟨v, rfl, hown, hA2, hK2, hnew⟩
  obtain ⟨sa, scap, rfl⟩ := owns_form hown
  have HLf := (show Hid (Calls Tryz.prog 72 _ w2 _) from hA2.left)
  have HE := (show Hid (w2.ownsRow 0 5 1 (.slice sa n scap) n (u8s ((List.range n).map (symU ws m bs))) ∧ Keep noBlock w' w2) from ⟨hown, hK1.trans hK2 (fun i hi e => by omega)⟩)
  clear HR hown hA2 hK1 hK2 hnew
  go_wp2_with fail
  refine HLf.out.mono ?_
  rintro e w3 ⟨rfl, q, rfl⟩
  have hT := HT.out
  have HD := (show Hid (unpOk ws m bs n = decide (posU ws m bs n = Tl.tailLen bs)) from by
   unfold unpOk
   rw [Bool.eq_iff_iff, decide_eq_true_iff, decide_eq_true_iff]
   exact ⟨fun h => h.2, fun h => ⟨HH.out.2.2.1, h⟩⟩)
  clear HLf
  generalize posU ws m bs n = p at *
  generalize Tl.tailLen bs = T at *
  obtain ⟨z, hz⟩ : ∃ z : Int, z = (T : Int) - ((p + m : Nat) : Int) + (m : Int) := ⟨_, rfl⟩
  have hz2 : (T : Int) - ((p : Int) + (m : Int)) + (m : Int) = z := by omega
  have hzl : -4503599627370496 < z ∧ z < 4503599627370496 := by omega
  have HZ := (show Hid _ from hz)
  clear hz
  rw [show (((p + m : Nat) : Int)) = (p : Int) + (m : Int) from by omega]
  by_cases hp : p = T
  ·have hz0 : (z != 0) = false := by have := HZ.out; simp; omega
   have HP := (show Hid (p = T) from hp)
   clear hp
   go_wp2_with fail
   go_ret2
   exact ⟨HE.out.2.trans' (keep_drewN w2 q), .inl ⟨by rw [HD.out]; exact decide_eq_true HP.out, _, rfl, HE.out.1⟩⟩
  ·have hz0 : (z != 0) = true := by have := HZ.out; simp; omega
   go_wp2_with fail
   go_ret2
   exact ⟨HE.out.2.trans' (keep_drewN w2 q), .inr ⟨by rw [HD.out]; exact decide_eq_false hp, rfl⟩⟩

end Go.Proofs.YtnjilcokkhodmaaGreatDoor

namespace Go.Proofs.YtnjilcokkhodmaaGreatDoor
open Go.RowKit Go.Shelf
set_option linter.unusedVariables false

theorem wpList_append_run {ops : Array Oper} {rest : List Oper} {o : Oper} {a : Act} {Q : Exit → Act → World → Prop} (w : World) (hgd : o.guard = none) (s x : Operand) (t : TypeId)
  (ho : o.op = .call { callee := .builtin .append, args := #[s, x], argTypes := #[t, t] }) (v sv v' : Value) (w' : World) (hs : a.eval s = v) (hx : a.eval x = sv)
  (hr : (Builtin.append_ #[t, t] o.type #[v, sv]).run Tryz.prog w = .ok v' w') (hk : wpList Tryz.prog ops Q rest (a.put o.dst v') w') : wpList Tryz.prog ops Q (o :: rest) a w := by
 refine wpList_plain hgd fun K hK => ?_
 unfold Oper.wp execOp
 simp only [ho, resolve, invoke, builtin, Sem.run_bind, Sem.run_pure, Result.andThen_ok, List.map_toArray, List.map_cons, List.map_nil, hs, hx, hr]
 exact hK _ _ hk

theorem own_push {W : World} {v : Value} {M : List Nat} (h : W.ownsRow 0 5 1 v M.length (u8s M)) (x : Nat) (hl : M.length ≤ 1000000) :
  ∃ v' W', (Builtin.append_ #[22, 22] 22 #[v, .slice (some ⟨W.heap.size, 0, none⟩) 1 1]).run Tryz.prog (W.alloc (.cells #[.int .u8 (x : Int)] 5)) = .ok v' W' ∧ W'.ownsRow 0 5 1 v' (M ++ [x]).length (u8s (M ++ [x])) ∧ Keep (fun k => v.ownBlock = some k) W W' ∧ (v'.ownBlock = v.ownBlock ∨ ∃ k, v'.ownBlock = some k ∧ W.heap.size ≤ k) := by
 have hka : Keep noBlock W (W.alloc (.cells #[.int .u8 (x : Int)] 5)) := (Keep.refl _ W).alloc _
 have hs : SrcB (W.alloc (.cells #[.int .u8 (x : Int)] 5)) (.slice (some ⟨W.heap.size, 0, none⟩) 1 1) [x] := .inr ⟨_, 1, rfl, fun j u hu => by
  have hj : j < 1 := by have := (List.getElem?_eq_some_iff.1 hu).1; rwa [u8s_length] at this
  obtain rfl : j = 0 := by omega
  rw [← hu, addO]
  exact cell_of (World.alloc_heap_new W _) 0⟩
 obtain ⟨v', W', hr, ho, hk, hm⟩ := run_append_all (W.alloc (.cells #[.int .u8 (x : Int)] 5)) 22 v M [x] (owns_kept h hka (fun _ _ h => h)) (by simp; omega) _ hs
 refine ⟨v', W', hr, ho, (hka.mono (fun _ _ h => h.elim)).trans hk (fun _ _ h => h), ?_⟩
 rcases hm with e | ⟨k, e, hk⟩
 ·exact .inl e
 ·exact .inr ⟨k, e, by rw [World.size_alloc] at hk; omega⟩

def usedN (h : Nat) : Nat := if h ≤ 127 then 1 + h else 1 + (h - 127 + 1) / 2
set_option maxHeartbeats 400000 in
theorem describedIn_any (h : Nat) (hh : h < 256) (w : World) : Calls Tryz.prog 78 #[.int .u8 (h : Int)] w fun e w' => e = .returned (.int .i64 ((usedN h : Nat) : Int)) ∧ w' = w := by
 unfold usedN
 by_cases h1 : h ≤ 127
 ·rw [if_pos h1]
  have hI : (h : Int) ≤ 127 := by omega
  go_enter Tryz.func78, Tryz.ntmps78
  go_wp2
  go_ret
  exact ⟨by simp, rfl⟩
 ·rw [if_neg h1]
  have hI : ¬ (h : Int) ≤ 127 := by omega
  obtain ⟨d, hd⟩ : ∃ d, d = (h - 127 + 1) / 2 := ⟨_, rfl⟩
  rw [← hd]
  have hdI : ((h : Int) - 127 + 1) / 2 = (d : Int) := by omega
  have hdT : ((h : Int) - 127 + 1).tdiv 2 = (d : Int) := by rw [Int.tdiv_eq_ediv_of_nonneg (by omega)]; exact hdI
  have hhI : (h : Int) < 256 := by omega
  have hd2 : (d : Int) < 100 := by omega
  clear hd
  go_enter Tryz.func78, Tryz.ntmps78
  go_wp2
  go_ret
  exact ⟨by simp, rfl⟩

def fourW (bs : List Nat) (k : Nat) : Nat := if k % 2 = 1 then bs[k / 2]?.getD 0 % 16 else bs[k / 2]?.getD 0 / 16
theorem fourW_lt (bs : List Nat) (k : Nat) (h : ∀ j : Nat, bs[j]?.getD 0 < 256) : fourW bs k < 16 := by
 have := h (k / 2)
 unfold fourW
 split <;> omega
theorem and15 (x : Nat) (h : x < 256) : bits .and .u8 (x : Int) 15 = ((x % 16 : Nat) : Int) := by
 revert h; revert x; decide +kernel

set_option maxRecDepth 100000 in
set_option maxHeartbeats 2000000 in
theorem tellFours_any (a : Option Addr) (cap gb off : Nat) (bs : List Nat) (n : Nat) (w : World) (hB : Bytes w a cap gb off bs) (hn : n ≤ 128) (hl : (n + 1) / 2 ≤ bs.length) :
  Calls Tryz.prog 97 #[.slice a bs.length cap, .int .i64 (n : Int)] w fun e w' => ∃ v, e = .returned v ∧ w'.ownsRow 0 5 1 v n (u8s ((List.range n).map (fourW bs))) ∧ Keep noBlock w w' ∧ ∀ k, v.ownBlock = some k → w.heap.size ≤ k := by
 have hmk : ∀ W : World, _ := fun W => run_make_u8 n n (Nat.le_refl _) (by omega) W
 have hnI : (n : Int) ≤ 128 := by omega
 have HB := (show Hid (Bytes w a cap gb off bs) from hB)
 obtain ⟨N, hN⟩ : ∃ N, N = bs.length := ⟨_, rfl⟩
 have HN := (show Hid (N = bs.length) from hN)
 rw [← hN] at hl ⊢
 have h48 := hB.len
 have hNI : (N : Int) < 281474976710656 := by omega
 clear hB hN h48
 obtain ⟨tb, htb⟩ : ∃ tb, tb = w.heap.size := ⟨_, rfl⟩
 have HR := (show Hid (RowK (w.alloc (.cells (u8s (List.replicate n 0)).toArray 5)) tb n (fourW bs) 0 ∧ Keep noBlock w (w.alloc (.cells (u8s (List.replicate n 0)).toArray 5))) from by rw [htb]; exact ⟨rowK_new w n _, (Keep.refl _ w).alloc _⟩)
 have HT := (show Hid (tb = w.heap.size) from htb)
 go_enter Tryz.func97, Tryz.ntmps97
 go_wp2
 rw [← htb]
 clear htb
 go_loopw [11] (fun v11 wr => ∃ i : Nat, v11 = .int .i64 (i : Int) ∧ i ≤ n ∧ Hid (RowK wr tb n (fourW bs) i ∧ Keep noBlock w wr)) (fun v11 _ => n - (intOf v11).toNat)
 case atStart => exact ⟨0, rfl, Nat.zero_le _, HR.out⟩
 case round =>
  clear HR
  obtain ⟨i, rfl, hi, HC⟩ := hrel
  by_cases hlt : i < n
  ·have hltI : (i : Int) < (n : Int) := by omega
   obtain ⟨hRow, hK⟩ := HC.out
   obtain ⟨d, hd⟩ : ∃ d, d = i / 2 := ⟨_, rfl⟩
   have hdx : d < bs.length := by have := HN.out; omega
   obtain rfl := HB.out.here hdx
   have hgb := HB.out.block (by intro e; rw [e] at hdx; simp at hdx)
   have hBr := HB.out.keep hK (fun _ h => h)
   have c1 := hBr.cells d hdx
   have hx256 := HB.out.lt d
   have hdN : (d : Int) < (N : Int) := by have := HN.out; omega
   have hdI : (i : Int) / 2 = (d : Int) := by omega
   have hdT : (i : Int).tdiv 2 = (d : Int) := by rw [Int.tdiv_eq_ediv_of_nonneg (by omega)]; exact hdI
   obtain ⟨x0, c2⟩ := hRow.cell i hlt
   have f2 := hRow.frozen i
   have hst := hRow.step hlt
   have htw := HT.out
   have hks : ∀ x : Value, Keep (fun k => k = tb) wr (wr.setCell ⟨tb, i, none⟩ x) := fun x => (Keep.refl (fun k => k = tb) wr).setCell (p := ⟨tb, i, none⟩) (fun _ => rfl) _
   have hfw : fourW bs i = if i % 2 = 1 then bs[d]?.getD 0 % 16 else bs[d]?.getD 0 / 16 := by rw [hd]; rfl
   obtain ⟨y, hy⟩ : ∃ y, y = bs[d]?.getD 0 := ⟨_, rfl⟩
   rw [← hy] at c1 hx256 hfw
   have hyI : (y : Int) < 256 := by omega
   have hsh : (y : Int) / 2 ^ 4 = ((y / 16 : Nat) : Int) := by omega
   obtain ⟨z, hz⟩ : ∃ z, z = y / 16 := ⟨_, rfl⟩
   rw [← hz] at hsh
   have hzI : (z : Int) < 16 := by omega
   have hsh2 : (y : Int) / 16 = (z : Int) := by omega
   by_cases hp : i % 2 = 1
   ·rw [if_pos hp] at hfw
    obtain ⟨u, hu⟩ : ∃ u, u = y % 16 := ⟨_, rfl⟩
    have h15 := and15 y hx256
    rw [← hu] at h15 hfw
    rw [hfw] at hst
    have hmI : (i : Int) % 2 = 1 := by omega
    have hmT : (i : Int).tmod 2 = 1 := by rw [Int.tmod_eq_emod_of_nonneg (by omega)]; exact hmI
    have c3 : (wr.setCell ⟨tb, i, none⟩ (.int .u8 (z : Int))).cell? ⟨gb, off + d, none⟩ = some (.int .u8 (y : Int)) := (World.cell?_of_block ((hks _).block gb (Nat.lt_of_lt_of_le hgb hK.size) (by omega))).trans c1
    have hR1 : RowK (wr.setCell ⟨tb, i, none⟩ (.int .u8 (z : Int))) tb n (fourW bs) i := by
     obtain ⟨cs, o1, o2, o3, o4⟩ := hRow
     refine ⟨_, set_obj o1 _ _, by rw [Array.size_setIfInBounds, o2], fun j hj => ?_, fun j hj => ?_⟩
     ·rw [Array.getElem?_setIfInBounds]
      by_cases e : i = j
      ·subst e; rw [if_pos rfl, if_pos (by omega)]; exact ⟨_, rfl⟩
      ·rw [if_neg e]; exact o3 j hj
     ·rw [Array.getElem?_setIfInBounds, if_neg (by omega)]; exact o4 j hj
    have hst2 := hR1.step hlt
    rw [hfw] at hst2
    have HST := (show Hid (RowK ((wr.setCell ⟨tb, i, none⟩ (.int .u8 (z : Int))).setCell ⟨tb, i, none⟩ (.int .u8 (u : Int))) tb n (fourW bs) (i + 1) ∧ Keep noBlock w ((wr.setCell ⟨tb, i, none⟩ (.int .u8 (z : Int))).setCell ⟨tb, i, none⟩ (.int .u8 (u : Int)))) from ⟨hst2, (hK.setCell (p := ⟨tb, i, none⟩) (fun h => by dsimp only at h; omega) _).setCell (p := ⟨tb, i, none⟩) (fun h => by dsimp only at h; omega) _⟩)
    obtain ⟨x1, c4⟩ := hR1.cell i hlt
    have f4 := hR1.frozen i
    have htn : tb ≠ gb := by omega
    clear hst hst2 hR1 hRow hK hBr hks hd hy hz hu hfw HC htw hp
    go_wp2
    go_roundw
    case rel => exact ⟨i + 1, by go_num, by omega, HST.out⟩
    case measure => simp [intOf]; omega
   ·rw [if_neg hp, ← hz] at hfw
    rw [hfw] at hst
    have hmI : (i : Int) % 2 = 0 := by omega
    have hmT : (i : Int).tmod 2 = 0 := by rw [Int.tmod_eq_emod_of_nonneg (by omega)]; exact hmI
    have HST := (show Hid (RowK (wr.setCell ⟨tb, i, none⟩ (.int .u8 (z : Int))) tb n (fourW bs) (i + 1) ∧ Keep noBlock w (wr.setCell ⟨tb, i, none⟩ (.int .u8 (z : Int)))) from ⟨hst, hK.setCell (p := ⟨tb, i, none⟩) (fun h => by dsimp only at h; omega) _⟩)
    clear hst hRow hK hBr hks hd hy hz hfw HC htw hp
    go_wp2
    go_roundw
    case rel => exact ⟨i + 1, by go_num, by omega, HST.out⟩
    case measure => simp [intOf]; omega
  ·obtain rfl : i = n := by omega
   have hltI : ¬ (i : Int) < (i : Int) := by omega
   go_wp2
   go_ret
   exact ⟨_, rfl, HC.out.1.owns (by omega), HC.out.2, fun j hj => by
    obtain rfl : tb = j := by simpa [Value.ownBlock] using hj
    rw [HT.out]; exact Nat.le_refl _⟩

end Go.Proofs.YtnjilcokkhodmaaGreatDoor

namespace Go.Proofs.YtnjilcokkhodmaaGreatDoor
open Go.RowKit Go.Shelf
set_option linter.unusedVariables false

def lastW (M : List Nat) : Nat := lenN (2 ^ lenN (sumW M M.length) - sumW M M.length)
theorem wt_app (M : List Nat) (x i : Nat) (h : i < M.length) : wt (M ++ [x]) i = wt M i := by unfold wt; rw [List.getElem?_append_left h]
theorem codeB_okW {M : List Nat} (x : Nat) (h : okW M = false) : codeB (M ++ [x]) = false := by
 refine codeB_ok (decide_eq_false (fun q => (of_decide_eq_false h) (fun i hi => ?_)))
 have := q i (by simp; omega)
 rwa [wt_app M x i hi] at this

def LastPost (M : List Nat) (w : World) (e : Ending) (w' : World) : Prop :=
 (codeB (M ++ [lastW M]) = true ∧ ∃ v, e = .returned (.tuple #[v, .bool true]) ∧ w'.ownsRow 0 5 1 v (M ++ [lastW M]).length (u8s (M ++ [lastW M])) ∧ ∀ k, v.ownBlock = some k → w.heap.size ≤ k) ∨
 (codeB (M ++ [lastW M]) = false ∧ ∃ v, e = .returned (.tuple #[v, .bool false]))

set_option maxRecDepth 100000 in
set_option maxHeartbeats 2000000 in
theorem withLast_any (w : World) (v : Value) (M : List Nat) (W : World) (hown : W.ownsRow 0 5 1 v M.length (u8s M)) (hlt : ∀ j : Nat, M[j]?.getD 0 < 256) (hl : M.length ≤ 255) (hnew : ∀ k, v.ownBlock = some k → w.heap.size ≤ k) (hsz : w.heap.size ≤ W.heap.size) :
    Calls Tryz.prog 80 #[v] W fun e W' => LastPost M w e W' ∧ Keep (fun k => w.heap.size ≤ k) W W' := by
  obtain ⟨a, cap, g, rfl, hB, hg⟩ := owns_bytes hown hlt (by omega)
  have HS := (show Hid (Calls Tryz.prog 101 _ W _) from sumOfW_any a cap g 0 M W hB (by omega))
  obtain ⟨n, hn⟩ : ∃ n, n = M.length := ⟨_, rfl⟩
  have HN := (show Hid (n = M.length) from hn)
  cases hok : okW M with
  | false =>
    have HC := (show Hid (codeB (M ++ [lastW M]) = false) from codeB_okW _ hok)
    have HS2 := (show Hid (Calls Tryz.prog 101 #[.slice a n cap] W fun e w' => e = .returned (.tuple #[.int .i64 0, .bool false]) ∧ w' = W) from by
      rw [hn]
      exact HS.out.mono (by
        rintro e w' ⟨h, rfl⟩
        rw [hok] at h
        rcases h with ⟨h, _⟩ | ⟨_, rfl⟩
        · cases h
        · exact ⟨rfl, rfl⟩))
    rw [← hn]
    clear HS hB hown hlt hnew hn hok hg
    go_enter Tryz.func80, Tryz.ntmps80
    go_wp2_with (go_at_call 101; refine HS2.out.mono ?_; rintro e w' ⟨rfl, rfl⟩)
    go_ret2
    exact ⟨.inr ⟨HC.out, _, rfl⟩, Keep.refl _ _⟩
  | true =>
    have HS2 := (show Hid (Calls Tryz.prog 101 #[.slice a n cap] W fun e w' => e = .returned (.tuple #[.int .i64 ((sumW M M.length : Nat) : Int), .bool true]) ∧ w' = W) from by
      rw [hn]
      exact HS.out.mono (by
        rintro e w' ⟨h, rfl⟩
        rw [hok] at h
        rcases h with ⟨_, rfl⟩ | ⟨h, _⟩
        · exact ⟨rfl, rfl⟩
        · cases h))
    have hsb := sumW_le M M.length (of_decide_eq_true hok)
    have hS18 : sumW M M.length < 262144 := by omega
    have hl18 : lenN (sumW M M.length) ≤ 18 := lenN_le _ _ (by omega)
    have hp18 : 2 ^ lenN (sumW M M.length) ≤ 262144 := Nat.pow_le_pow_right (n := 2) (j := 18) (by omega) hl18
    have hSP : sumW M M.length ≤ 2 ^ lenN (sumW M M.length) := by
      by_cases h0 : sumW M M.length = 0
      · rw [h0]; exact Nat.zero_le _
      · exact Nat.le_of_lt (lenN_pos _ h0).2.1
    have HL1 := (show Hid (∀ w : World, _) from fun w => len_big (sumW M M.length) (by omega) w)
    have hlw : lastW M = lenN (2 ^ lenN (sumW M M.length) - sumW M M.length) := rfl
    obtain ⟨L1, hL1⟩ : ∃ L1, L1 = lenN (sumW M M.length) := ⟨_, rfl⟩
    obtain ⟨P, hP⟩ : ∃ P, P = 2 ^ lenN (sumW M M.length) := ⟨_, rfl⟩
    obtain ⟨S, hS⟩ : ∃ S, S = sumW M M.length := ⟨_, rfl⟩
    have hPI : wrap64 ((2 : Int) ^ L1) = (P : Int) := by
      have e : (2 : Int) ^ L1 = (P : Int) := by rw [hP, hL1]; simp
      rw [e]
      rw [← hP] at hp18
      clear e hP hlw hSP
      unfold wrap64; omega
    rw [← hP] at hlw hp18 hSP
    rw [← hL1] at HL1 hl18
    rw [← hS] at HL1 HS2 hlw hSP hS18
    have hwant : P - S ≤ 262144 := by clear hPI; omega
    obtain ⟨D, hD⟩ : ∃ D, D = P - S := ⟨_, rfl⟩
    rw [← hD] at hlw
    have hDI : (P : Int) - (S : Int) = (D : Int) := by clear hPI; omega
    have HL2 := (show Hid (∀ w : World, Calls Tryz.prog 92 #[.int .u64 (D : Int)] w fun e w' => e = .returned (.int .i64 ((lastW M : Nat) : Int)) ∧ w' = w) from fun w => by rw [hlw]; exact len_big D (by clear hPI; omega) w)
    have hlw19 : lastW M ≤ 19 := by rw [hlw]; exact lenN_le _ _ (by clear hPI; omega)
    obtain ⟨v', W', hrun, hown', hk', hm'⟩ := own_push hown (lastW M) (by omega)
    have hnew' : ∀ k, v'.ownBlock = some k → w.heap.size ≤ k := fun k e => by
      rcases hm' with e2 | ⟨j, e2, hj⟩
      · rw [e2] at e; exact hnew k e
      · rw [e2] at e; cases e; omega
    have hlt' : ∀ j : Nat, (M ++ [lastW M])[j]?.getD 0 < 256 := lt_app hlt (lt256 (fun b hb => by rw [List.mem_singleton.1 hb]; omega))
    obtain ⟨a', cap', g', rfl, hB', hg'⟩ := owns_bytes hown' hlt' (by simp; omega)
    have HM := (show Hid (Calls Tryz.prog 95 _ W' _) from makeCode_any a' cap' g' 0 (M ++ [lastW M]) W' hB')
    have HF := (show Hid (W'.ownsRow 0 5 1 (.slice a' (M ++ [lastW M]).length cap') (M ++ [lastW M]).length (u8s (M ++ [lastW M])) ∧ Keep (fun k => w.heap.size ≤ k) W W' ∧ ∀ k, (Value.slice a' (M ++ [lastW M]).length cap').ownBlock = some k → w.heap.size ≤ k) from ⟨hown', hk'.mono (fun i hi e => hnew i e), hnew'⟩)
    rw [← hn] at hrun
    obtain ⟨n', hn'⟩ : ∃ n', n' = (M ++ [lastW M]).length := ⟨_, rfl⟩
    rw [← hn'] at hrun HM HF
    have HN' := (show Hid (n' = (M ++ [lastW M]).length) from hn')
    rw [← hn]
    clear HS hB hown hlt hnew hn hok hg hn' hown' hk' hm' hnew' hlt' hB' hg' hlw hD hP hL1 hS hsb hSP
    obtain ⟨lw, hlwe⟩ : ∃ lw, lastW M = lw := ⟨_, rfl⟩
    rw [hlwe] at HL2 hlw19 hrun HM HF HN'
    have HLW := (show Hid (lastW M = lw) from hlwe)
    clear hlwe
    have hlwI : (lw : Int) ≤ 19 := by omega
    have hDl : (D : Int) ≤ 262144 := by omega
    have hL1I : (L1 : Int) ≤ 18 := by omega
    clear hwant hp18 hl18
    go_enter Tryz.func80, Tryz.ntmps80
    go_wp2_with (go_at_call 101; refine HS2.out.mono ?_; rintro e w' ⟨rfl, rfl⟩)
    refine (HL1.out _).mono ?_
    rintro e w2 ⟨rfl, rfl⟩
    have HX := (show Hid _ from hS18)
    clear hS18
    go_wp2_with fail
    refine (HL2.out _).mono ?_
    rintro e w3 ⟨rfl, rfl⟩
    clear hPI hDI
    go_wp2_with (at_builtin; refine wpList_append_run _ rfl _ _ 22 rfl _ _ _ _ rfl rfl hrun ?_)
    refine HM.out.mono ?_
    rintro e w4 ⟨l, rfl, -, rfl⟩
    cases hcb : codeB (M ++ [lw]) with
    | true =>
      go_wp2_with fail
      go_ret2
      exact ⟨.inl ⟨by rw [HLW.out]; exact hcb, _, rfl, by rw [HLW.out, ← HN'.out]; exact HF.out.1, HF.out.2.2⟩, HF.out.2.1⟩
    | false =>
      go_wp2_with fail
      go_ret2
      exact ⟨.inr ⟨by rw [HLW.out]; exact hcb, _, rfl⟩, HF.out.2.1⟩

end Go.Proofs.YtnjilcokkhodmaaGreatDoor

namespace Go.Proofs.YtnjilcokkhodmaaGreatDoor
open Go.RowKit Go.Shelf
set_option linter.unusedVariables false

def TellPost (T : Option (List Nat)) (w : World) (e : Ending) (w' : World) : Prop :=
 Keep noBlock w w' ∧ match T with
  | none => e = .returned (.tuple #[.slice none 0 0, .bool false])
  | some M => ∃ v, e = .returned (.tuple #[v, .bool true]) ∧ w'.ownsRow 0 5 1 v M.length (u8s M) ∧ ∀ k, v.ownBlock = some k → w.heap.size ≤ k
def readOf : Option (List Nat) → Option (List Nat)
 | none => none
 | some M => if codeB (M ++ [lastW M]) then some (M ++ [lastW M]) else none
theorem readOf_yes {M : List Nat} (h : codeB (M ++ [lastW M]) = true) : readOf (some M) = some (M ++ [lastW M]) := if_pos h
theorem readOf_no {M : List Nat} (h : codeB (M ++ [lastW M]) = false) : readOf (some M) = none := if_neg (by rw [h]; decide)
def ReadPost (R : Option (List Nat)) (u : Nat) (w : World) (e : Ending) (w' : World) : Prop :=
 Keep noBlock w w' ∧ match R with
  | none => e = .returned (.tuple #[.slice none 0 0, .int .i64 0, .int .i64 11])
  | some ws => ∃ v, e = .returned (.tuple #[v, .int .i64 (u : Int), .int .i64 0]) ∧ w'.ownsRow 0 5 1 v ws.length (u8s ws) ∧ ∀ k, v.ownBlock = some k → w.heap.size ≤ k

set_option maxRecDepth 100000 in
set_option maxHeartbeats 2000000 in
theorem read_short (a : Option Addr) (cap gb off : Nat) (bs : List Nat) (w : World) (hB : Bytes w a cap gb off bs) (hs : bs.length < usedN (bs[0]?.getD 0)) :
  Calls Tryz.prog 61 #[.slice a bs.length cap] w fun e w' => e = .returned (.tuple #[.slice none 0 0, .int .i64 0, .int .i64 10]) ∧ w' = w := by
 by_cases h0 : bs.length = 0
 ·rw [h0]
  go_enter Tryz.func61, Tryz.ntmps61
  go_wp2
  exact bodyPost_ret (by simp [results, Tryz.results61]) rfl ⟨rfl, rfl⟩
 ·obtain rfl := hB.here (i := 0) (by omega)
  have c0 := hB.cells 0 (by omega)
  have hx := hB.lt 0
  have HD := (show Hid (∀ w : World, _) from fun w => describedIn_any (bs[0]?.getD 0) hx w)
  rw [Nat.add_zero] at c0
  have h48 := hB.len
  obtain ⟨n, hn⟩ : ∃ n, n = bs.length := ⟨_, rfl⟩
  rw [← hn] at hs h0 h48 ⊢
  generalize bs[0]?.getD 0 = h at *
  generalize usedN h = u at *
  have hsI : (n : Int) < (u : Int) := by omega
  have hn0 : ((n : Int) == 0) = false := by rw [beq_eq_false_iff_ne]; omega
  have hn1 : (0 : Int) < (n : Int) := by omega
  clear hB hn h48
  go_enter Tryz.func61, Tryz.ntmps61
  go_wp2_with (go_at_call 78; refine (HD.out _).mono ?_; rintro e w' ⟨rfl, rfl⟩)
  exact bodyPost_ret (by simp [results, Tryz.results61]) rfl ⟨rfl, rfl⟩

section
attribute [local go_sem] sliceSem_eq
set_option maxRecDepth 100000 in
set_option maxHeartbeats 2000000 in
theorem read_told (a : Option Addr) (cap gb off : Nat) (bs : List Nat) (u : Nat) (T : Option (List Nat)) (w : World) (hB : Bytes w a cap gb off bs) (hne : bs ≠ []) (hu : u = usedN (bs[0]?.getD 0)) (hs : u ≤ bs.length)
    (hT : Calls Tryz.prog 79 #[.slice a (bs.take u).length cap] w fun e w' => TellPost T w e w') (hM : ∀ M, T = some M → M.length ≤ 255 ∧ ∀ j : Nat, M[j]?.getD 0 < 256) :
    Calls Tryz.prog 61 #[.slice a bs.length cap] w fun e w' => ReadPost (readOf T) u w e w' := by
  have hpos : 0 < bs.length := List.length_pos_iff.2 hne
  obtain rfl := hB.here (i := 0) hpos
  have c0 := hB.cells 0 hpos
  have hx := hB.lt 0
  have HD := (show Hid (∀ w : World, _) from fun w => describedIn_any (bs[0]?.getD 0) hx w)
  rw [← hu] at HD
  rw [Nat.add_zero] at c0
  have h48 := hB.len
  have hrun := (hB.take u hs).1
  have HT := (show Hid (Calls Tryz.prog 79 #[.slice (some ⟨gb, off, none⟩) (bs.take u).length cap] w fun e w' => TellPost T w e w') from hT)
  have hu256 : u ≤ 256 := by rw [hu]; unfold usedN; split <;> omega
  obtain ⟨n, hn⟩ : ∃ n, n = bs.length := ⟨_, rfl⟩
  obtain ⟨k, hk⟩ : ∃ k, k = (bs.take u).length := ⟨_, rfl⟩
  rw [← hn] at hs hpos h48 hrun ⊢
  rw [← hk] at HT hrun
  generalize bs[0]?.getD 0 = h at *
  have hsI : ¬ (n : Int) < (u : Int) := by omega
  have hn0 : ((n : Int) == 0) = false := by rw [beq_eq_false_iff_ne]; omega
  have hn1 : (0 : Int) < (n : Int) := by omega
  have huI : (u : Int) ≤ 256 := by omega
  clear hB hn h48 hT hu hk hne hu256
  cases T with
  | none =>
    go_enter Tryz.func61, Tryz.ntmps61
    go_wp2_with (first | (go_at_call 78; refine (HD.out _).mono ?_; rintro e w' ⟨rfl, rfl⟩) | (go_at_call 79; refine HT.out.mono ?_; rintro e w1 ⟨hK, rfl⟩))
    exact bodyPost_ret (by simp [results, Tryz.results61]) rfl ⟨hK, rfl⟩
  | some M =>
    obtain ⟨hl, hlt⟩ := hM M rfl
    have HM := (show Hid (M.length ≤ 255 ∧ ∀ j : Nat, M[j]?.getD 0 < 256) from ⟨hl, hlt⟩)
    clear hl hlt hM
    go_enter Tryz.func61, Tryz.ntmps61
    go_wp2_with (go_at_call 78; refine (HD.out _).mono ?_; rintro e w' ⟨rfl, rfl⟩)
    refine HT.out.mono ?_
    rintro e w1 ⟨hK, v, rfl, hown, hnew⟩
    have HL := (show Hid (Calls Tryz.prog 80 _ w1 _) from withLast_any _ v M w1 hown HM.out.2 HM.out.1 hnew hK.size)
    obtain ⟨sa, scap, rfl⟩ := owns_form hown
    have HK := (show Hid (Keep noBlock w' w1) from hK)
    clear hown hnew HT hK c0
    go_wp2_with fail
    refine HL.out.mono ?_
    rintro e w2 ⟨hP, hK2⟩
    have HK2 := (show Hid (Keep noBlock w' w2) from HK.out.trans hK2 (fun i hi e => by omega))
    rcases hP with ⟨hc, v2, rfl, hown2, hnew2⟩ | ⟨hc, v2, rfl⟩
    · obtain ⟨sb, bcap, rfl⟩ := owns_form hown2
      have HO := (show Hid (w2.ownsRow 0 5 1 (.slice sb (M ++ [lastW M]).length bcap) (M ++ [lastW M]).length (u8s (M ++ [lastW M])) ∧ readOf (some M) = some (M ++ [lastW M]) ∧ ∀ k, (Value.slice sb (M ++ [lastW M]).length bcap).ownBlock = some k → w'.heap.size ≤ k) from ⟨hown2, readOf_yes hc, hnew2⟩)
      obtain ⟨L, hL⟩ : ∃ L, L = (M ++ [lastW M]).length := ⟨_, rfl⟩
      rw [← hL] at HO ⊢
      have HLL := (show Hid (L = (M ++ [lastW M]).length) from hL)
      clear hL
      clear hown2 hnew2 hK2
      go_wp2_with fail
      refine bodyPost_ret (by simp [results, Tryz.results61]; rfl) rfl ⟨HK2.out, ?_⟩
      rw [HO.out.2.1]
      exact ⟨_, rfl, by rw [← HLL.out]; exact HO.out.1, HO.out.2.2⟩
    · have HO := (show Hid (readOf (some M) = none) from readOf_no hc)
      clear hK2
      go_wp2_with fail
      refine bodyPost_ret (by simp [results, Tryz.results61]; rfl) rfl ⟨HK2.out, ?_⟩
      rw [HO.out]

set_option maxRecDepth 100000 in
set_option maxHeartbeats 2000000 in
theorem tell_fours (a : Option Addr) (cap gb off : Nat) (bs : List Nat) (n : Nat) (w : World) (hB : Bytes w a cap gb off bs) (hne : bs ≠ []) (h1 : bs[0]?.getD 0 = n + 127) (h2 : 1 ≤ n) (h3 : (n + 1) / 2 + 1 ≤ bs.length) :
  Calls Tryz.prog 79 #[.slice a bs.length cap] w fun e w' => TellPost (some ((List.range n).map (fourW (bs.drop 1)))) w e w' := by
 have hpos : 0 < bs.length := List.length_pos_iff.2 hne
 obtain rfl := hB.here (i := 0) hpos
 have c0 := hB.cells 0 hpos
 have hx := hB.lt 0
 rw [Nat.add_zero] at c0
 have h48 := hB.len
 obtain ⟨a', off', hrun, hB', -⟩ := hB.drop 1 hpos
 have HF := (show Hid (∀ q, Calls Tryz.prog 97 #[.slice a' (bs.drop 1).length (cap - 1), .int .i64 (n : Int)] (w.drewN q) _) from fun q => tellFours_any a' (cap - 1) gb off' (bs.drop 1) n (w.drewN q) (hB'.keep (keep_drewN w q) (fun _ h => h)) (by omega) (by rw [List.length_drop]; omega))
 obtain ⟨N, hN⟩ : ∃ N, N = bs.length := ⟨_, rfl⟩
 obtain ⟨k, hk⟩ : ∃ k, k = (bs.drop 1).length := ⟨_, rfl⟩
 obtain ⟨c', hc'⟩ : ∃ c', c' = cap - 1 := ⟨_, rfl⟩
 rw [← hk, ← hc'] at HF
 rw [← hN] at hpos h48 ⊢
 rw [← hN, ← hk, ← hc', show (((1 : Nat) : Int)) = (1 : Int) from rfl] at hrun
 obtain ⟨h, hh⟩ : ∃ h, h = bs[0]?.getD 0 := ⟨_, rfl⟩
 rw [← hh] at h1 hx c0
 have hgt : (127 : Int) < (h : Int) := by omega
 have hnI : (h : Int) - 127 = (n : Int) := by omega
 have hhI : (h : Int) < 256 := by omega
 have hp1 : (0 : Int) < (N : Int) := by omega
 have hML : ((List.range n).map (fourW (bs.drop 1))).length = n := by simp
 have HML := (show Hid _ from hML)
 clear hB hB' hN hk hc' hh h1 hx h48 hne h3 hML
 go_enter Tryz.func79, Tryz.ntmps79
 go_wp2_with fail
 go_quiet (fail)
 go_wp2_with (go_at_call 97; refine (HF.out _).mono ?_; rintro e w1 ⟨v, rfl, hown, hK, hnew⟩)
 go_ret2
 exact ⟨(keep_drewN w _).trans' hK, v, rfl, by rw [HML.out]; exact hown, hnew⟩
end

end Go.Proofs.YtnjilcokkhodmaaGreatDoor

namespace Go.Proofs.YtnjilcokkhodmaaGreatDoor
open Go.RowKit Go.Shelf
set_option linter.unusedVariables false

theorem whole_long (M : List Nat) (h : 255 < M.length) : codeB (M ++ [lastW M]) = false := by
 refine decide_eq_false fun q => ?_
 have := q.2.1
 simp at this; omega

end Go.Proofs.YtnjilcokkhodmaaGreatDoor
