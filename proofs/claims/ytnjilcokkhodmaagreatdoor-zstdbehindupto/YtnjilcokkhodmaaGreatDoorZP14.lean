/-
  The kinds of values as plain numbers; the code of a value, found by halving.
  A coding as it lies: its numbers, codeOf, read and put.
  Small functions on codings: codeOf, read, put; values of a step and back.
  Small functions on codings: put; the values of a step, and a step of values; logs and shifts.
  Tables as plain numbers, what tells them in a section, and rows of codes.
  Are codes all the same? The table of one code; the kinds of tables.
  A section that is read, whatever its bytes: next, number.
  The tail of a section as a plain list of bits, in the order in which they are put.
  isTable: of a table whose states all lead into it.
  Steps as they lie; codesOf: the codes of all steps' values of one kind.
  A tail's writer of one's own beside a variable of one's own; put of a coding, once more.
  lay under way: the section's bytes as far as they are told, the rows, the codings.
  A member as plain lists: its units, what each of them does to a frame.
  What a frame's head and a block's head tell: the small functions.
  blockOf, headOf, a new frame.
  What follows for members as plain lists: bytes behind, beginnings, budgets.
  What is true of a member's units: their lengths, by what was told ahead.
-/
import Derived.Deep.RegionLaw
import Derived.Deep.WholeRow
import Derived.Maps.AppendAt
import Derived.Test.YtnjilcokkhodmaaGreatDoorZP4
import Derived.Test.YtnjilcokkhodmaaGreatDoorZP6
import Derived.Test.YtnjilcokkhodmaaGreatDoorZP7
import Derived.Test.YtnjilcokkhodmaaGreatDoorZP8
import Derived.Test.YtnjilcokkhodmaaGreatDoorZP9
import Derived.Test.YtnjilcokkhodmaaGreatDoorZP10
namespace Go.Proofs.YtnjilcokkhodmaaGreatDoor
open Go.RowKit Go.Shelf
set_option linter.unusedVariables false

/-- A kind of values: the first value, extra bits by code, the most log, the log and the counts of the table that is not told. -/
structure Kd where
 first : Nat
 es : List Nat
 ml : Nat
 l : Nat
 cs : List Int
def kdL : Kd := ⟨0, eL, 9, 6, cL⟩
def kdB : Kd := ⟨1, eB, 8, 5, cB⟩
def kdM : Kd := ⟨3, eM, 9, 6, cM⟩
def Kd.codes (K : Kd) : Nat := K.es.length
def Kd.lsts (K : Kd) : List Nat := leastsF K.first K.es
def Kd.lst (K : Kd) (c : Nat) : Nat := K.lsts[c]?.getD 0
def Kd.ext (K : Kd) (c : Nat) : Nat := K.es[c]?.getD 0
/-- What is true of the three kinds. -/
structure KOk (K : Kd) : Prop where
 len : K.lsts.length = K.codes
 le : K.codes ≤ 53
 pos : 0 < K.codes
 zero : K.lst 0 = K.first
 lt : ∀ c, c < K.codes → K.lst c < 4294967296 ∧ K.ext c < 32
 next : ∀ c, c + 1 < K.codes → K.lst (c + 1) = K.lst c + 2 ^ K.ext c
 ml5 : 5 ≤ K.ml
 ml9 : K.ml ≤ 9
theorem kok_check (K : Kd) (h : (decide (K.lsts.length = K.codes) && decide (K.codes ≤ 53) && decide (0 < K.codes) && decide (K.lst 0 = K.first) && decide (5 ≤ K.ml) && decide (K.ml ≤ 9) &&
  (List.range K.codes).all (fun c => decide (K.lst c < 4294967296 ∧ K.ext c < 32)) && (List.range K.codes).all (fun c => decide (c + 1 < K.codes → K.lst (c + 1) = K.lst c + 2 ^ K.ext c))) = true) : KOk K := by
 simp only [Bool.and_eq_true, decide_eq_true_eq, List.all_eq_true, List.mem_range] at h
 obtain ⟨⟨⟨⟨⟨⟨⟨h1, h2⟩, h3⟩, h4⟩, h5⟩, h6⟩, h7⟩, h8⟩ := h
 exact ⟨h1, h2, h3, h4, fun c hc => h7 c hc, fun c hc => h8 c (by omega) hc, h5, h6⟩
theorem kokL : KOk kdL := kok_check _ (by kernel_rfl)
theorem kokB : KOk kdB := kok_check _ (by kernel_rfl)
theorem kokM : KOk kdM := kok_check _ (by kernel_rfl)

end Go.Proofs.YtnjilcokkhodmaaGreatDoor

namespace Go.Proofs.YtnjilcokkhodmaaGreatDoor
open Go.RowKit Go.Shelf
set_option linter.unusedVariables false

/-- At offset o of block b stands a coding, its counts in block gc. -/
structure Coding (w : World) (b o gc : Nat) (K : Kd) : Prop where
 codes : w.cell? ⟨b, o, none⟩ = some (.int .i64 (K.codes : Int))
 least : ∀ j, j < K.codes → w.cell? ⟨b, o + 1 + j, none⟩ = some (.int .u32 ((K.lst j : Nat) : Int))
 extra : ∀ j, j < K.codes → w.cell? ⟨b, o + 54 + j, none⟩ = some (.int .u8 ((K.ext j : Nat) : Int))
 ml : w.cell? ⟨b, o + 107, none⟩ = some (.int .i64 (K.ml : Int))
 lg : w.cell? ⟨b, o + 108, none⟩ = some (.int .i64 (K.l : Int))
 cn : w.cell? ⟨b, o + 109, none⟩ = some (.slice (some ⟨gc, 0, none⟩) K.cs.length K.cs.length)
 row : RowI w .i16 (some ⟨gc, 0, none⟩) K.cs.length gc 0 K.cs
 lt : b < w.heap.size
 gt : gc < w.heap.size
 ok : KOk K
theorem Coding.keep {w w' : World} {S : Nat → Prop} {b o gc : Nat} {K : Kd} (h : Coding w b o gc K) (hk : Keep S w w') (h1 : ¬ S b) (h2 : ¬ S gc) : Coding w' b o gc K := by
 have e := hk.block b h.lt h1
 exact ⟨(World.cell?_of_block e).trans h.codes, fun j hj => (World.cell?_of_block e).trans (h.least j hj), fun j hj => (World.cell?_of_block e).trans (h.extra j hj), (World.cell?_of_block e).trans h.ml, (World.cell?_of_block e).trans h.lg, (World.cell?_of_block e).trans h.cn,
  h.row.keep hk (fun _ => h2), Nat.lt_of_lt_of_le h.lt hk.size, Nat.lt_of_lt_of_le h.gt hk.size, h.ok⟩

theorem pad_length (n : Nat) (l : List Nat) (h : l.length ≤ n) : (pad n l).length = n := by simp [pad]; omega
theorem pad_at (n : Nat) (l : List Nat) (j : Nat) (h : j < l.length) : (pad n l)[j]? = some (l[j]?.getD 0) := by
 unfold pad
 rw [List.getElem?_append_left h, List.getElem?_eq_getElem h]
 rfl
theorem codL_length (K : Kd) (hK : KOk K) (v : Value) : (codL K.first K.es K.ml K.l v).length = 110 := by
 have h1 := pad_length 53 (leastsF K.first K.es) (by have := hK.len; have := hK.le; unfold Kd.lsts at *; omega)
 have h2 := pad_length 53 K.es hK.le
 simp [codL, h1, h2]
theorem coding_of {w : World} {b o gc : Nat} {K : Kd} (hK : KOk K) {A : List Value} (hb : w.heap[b]? = some (.cells A.toArray 107 (0, 0))) (v : Value) (hv : v = .slice (some ⟨gc, 0, none⟩) K.cs.length K.cs.length)
  (hA : ∀ j, j < 110 → A[o + j]? = (codL K.first K.es K.ml K.l v)[j]?) (hg : w.heap[gc]? = some (.cells (i16c K.cs).toArray 131 (0, 0))) : Coding w b o gc K := by
 have hl1 := pad_length 53 (leastsF K.first K.es) (by have := hK.len; have := hK.le; unfold Kd.lsts at *; omega)
 have hl2 := pad_length 53 K.es hK.le
 have cell : ∀ j, j < 110 → w.cell? ⟨b, o + j, none⟩ = (codL K.first K.es K.ml K.l v)[j]? := fun j hj => by
  rw [cell_of hb, List.getElem?_toArray]; exact hA j hj
 have hle := hK.le
 have c53 : K.codes ≤ 53 := hle
 refine ⟨(cell 0 (by omega)).trans rfl, fun j hj => ?_, fun j hj => ?_, ?_, ?_, ?_, ⟨.inl rfl, fun e => (by cases e), fun j hj => ?_, Nat.le_refl _⟩, obj_lt hb, obj_lt hg, hK⟩
 ·rw [Nat.add_assoc, cell (1 + j) (by omega), Nat.add_comm 1 j]
  show ((_ ++ _ ++ _ : List Value))[j]? = _
  rw [List.append_assoc, List.getElem?_append_left (by rw [List.length_map, hl1]; omega), List.getElem?_map, pad_at 53 _ j (by have := hK.len; unfold Kd.lsts at this; omega)]
  rfl
 ·rw [Nat.add_assoc, cell (54 + j) (by omega), show 54 + j = 53 + j + 1 from by omega]
  show ((_ ++ _ ++ _ : List Value))[53 + j]? = _
  rw [List.append_assoc, List.getElem?_append_right (by rw [List.length_map, hl1]; omega), List.length_map, hl1, Nat.add_sub_cancel_left, List.getElem?_append_left (by rw [List.length_map, hl2]; omega), List.getElem?_map, pad_at 53 _ j hj]
  rfl
 ·rw [cell 107 (by omega)]
  show ((_ ++ _ ++ _ : List Value))[106]? = _
  rw [List.getElem?_append_right (by rw [List.length_append, List.length_map, List.length_map, hl1, hl2]; omega), List.length_append, List.length_map, List.length_map, hl1, hl2]
  rfl
 ·rw [cell 108 (by omega)]
  show ((_ ++ _ ++ _ : List Value))[107]? = _
  rw [List.getElem?_append_right (by rw [List.length_append, List.length_map, List.length_map, hl1, hl2]; omega), List.length_append, List.length_map, List.length_map, hl1, hl2]
  rfl
 ·rw [cell 109 (by omega)]
  show ((_ ++ _ ++ _ : List Value))[108]? = _
  rw [List.getElem?_append_right (by rw [List.length_append, List.length_map, List.length_map, hl1, hl2]; omega), List.length_append, List.length_map, List.length_map, hl1, hl2, hv]
  rfl
 ·rw [cell_of hg, Nat.zero_add, List.getElem?_toArray, i16c, List.getElem?_map, List.getElem?_eq_getElem hj]
  rfl
/-- The three codings. -/
structure Cods (w : World) (b g0 g1 g2 : Nat) : Prop where
 cl : Coding w b 0 g0 kdL
 cb : Coding w b 110 g1 kdB
 cm : Coding w b 220 g2 kdM
theorem cods_of {w : World} {b g0 g1 g2 : Nat} (h : IsCod w b g0 g1 g2) : Cods w b g0 g1 g2 := by
 have l0 := codL_length kdL kokL (.slice (some ⟨g0, 0, none⟩) 36 36)
 have l1 := codL_length kdB kokB (.slice (some ⟨g1, 0, none⟩) 29 29)
 refine ⟨coding_of kokL h.obj _ rfl (fun j hj => ?_) h.o0, coding_of kokB h.obj _ rfl (fun j hj => ?_) h.o1, coding_of kokM h.obj _ rfl (fun j hj => ?_) h.o2⟩
 ·unfold codA
  rw [List.append_assoc, Nat.zero_add]
  exact List.getElem?_append_left (by rw [show codL 0 eL 9 6 _ = codL kdL.first kdL.es kdL.ml kdL.l _ from rfl, l0]; exact hj)
 ·unfold codA
  rw [List.append_assoc, List.getElem?_append_right (by rw [show codL 0 eL 9 6 _ = codL kdL.first kdL.es kdL.ml kdL.l _ from rfl, l0]; omega), show codL 0 eL 9 6 _ = codL kdL.first kdL.es kdL.ml kdL.l _ from rfl, l0, Nat.add_sub_cancel_left]
  exact List.getElem?_append_left (by rw [show codL 1 eB 8 5 _ = codL kdB.first kdB.es kdB.ml kdB.l _ from rfl, l1]; exact hj)
 ·unfold codA
  rw [List.getElem?_append_right (by rw [List.length_append, show codL 0 eL 9 6 _ = codL kdL.first kdL.es kdL.ml kdL.l _ from rfl, l0, show codL 1 eB 8 5 _ = codL kdB.first kdB.es kdB.ml kdB.l _ from rfl, l1]; omega), List.length_append, show codL 0 eL 9 6 _ = codL kdL.first kdL.es kdL.ml kdL.l _ from rfl, l0, show codL 1 eB 8 5 _ = codL kdB.first kdB.es kdB.ml kdB.l _ from rfl, l1, show 220 + j - (110 + 110) = j from by omega]
  rfl
theorem Cods.keep {w w' : World} {S : Nat → Prop} {b g0 g1 g2 : Nat} (h : Cods w b g0 g1 g2) (hk : Keep S w w') (hb : ¬ S b) (h0 : ¬ S g0) (h1 : ¬ S g1) (h2 : ¬ S g2) : Cods w' b g0 g1 g2 :=
 ⟨h.cl.keep hk hb h0, h.cb.keep hk hb h1, h.cm.keep hk hb h2⟩
end Go.Proofs.YtnjilcokkhodmaaGreatDoor

namespace Go.Proofs.YtnjilcokkhodmaaGreatDoor
open Go.RowKit Go.Shelf
set_option linter.unusedVariables false

section
attribute [local go_sem] sliceAtSem_eq
end

end Go.Proofs.YtnjilcokkhodmaaGreatDoor

namespace Go.Proofs.YtnjilcokkhodmaaGreatDoor
open Go.RowKit Go.Shelf
set_option linter.unusedVariables false

theorem lenN_powC (l : Nat) : lenN (2 ^ l) = l + 1 := lenN_eq _ _ (Nat.le_refl _) (Nat.pow_lt_pow_right (by omega) (by omega))
theorem pow12 {l : Nat} (hl : l ≤ 12) : 2 ^ l ≤ 4096 := Nat.pow_le_pow_right (n := 2) (j := 12) (by omega) hl
theorem logOf_any (a : Option Addr) (n l cap : Nat) (hn : n = 2 ^ l) (hl : l ≤ 12) (w : World) : Calls Tryz.prog 69 #[.slice a n cap] w fun e w' => e = .returned (.int .i64 (l : Int)) ∧ w' = w := by
 have h12 := pow12 hl
 rw [← hn] at h12
 have hnI : (n : Int) ≤ 4096 := by omega
 have HL := hid (len_any n (by omega) w)
 rw [hn, lenN_powC, ← hn] at HL
 obtain ⟨k, hk⟩ : ∃ k, k = l + 1 := ⟨_, rfl⟩
 rw [← hk] at HL
 have hkI : (k : Int) ≤ 64 := by omega
 have hw1 : IntKind.u64.wrap (n : Int) = (n : Int) := by rw [IntKind.wrap_u64]; omega
 have hw2 : (k : Int) - 1 = (l : Int) := by omega
 have hlI : (l : Int) ≤ 12 := by omega
 clear hk hn
 go_enter Tryz.func69, Tryz.ntmps69
 go_wp2_with fail
 refine HL.out.mono ?_
 rintro e w' ⟨rfl, rfl⟩
 go_wp2_with fail
 go_ret
 exact ⟨rfl, rfl⟩
theorem shiftOf_any (v : Nat) (hv : v ≤ 2) (w : World) : Calls Tryz.prog 66 #[.int .i64 (v : Int)] w fun e w' => e = .returned (.int .i64 ((6 - 2 * v : Nat) : Int)) ∧ w' = w := by
 rcases (show v = 0 ∨ v = 1 ∨ v = 2 by omega) with rfl | rfl | rfl
 all_goals
  go_enter Tryz.func66, Tryz.ntmps66
  go_wp2_with fail
  go_ret
  exact ⟨rfl, rfl⟩
set_option maxHeartbeats 1000000 in
theorem stepOf_any (x y z : Int) (w : World) : Calls Tryz.prog 71 #[.agg #[.int .i64 x, .int .i64 z, .int .i64 y]] w fun e w' => e = .returned (.agg #[.int .i64 x, .int .i64 y, .int .i64 z]) ∧ Keep noBlock w w' := by
 go_enter Tryz.func71, Tryz.ntmps71
 go_wp2_with fail
 refine bodyPost_ret (results_cell rfl _ _ _ ⟨w.heap.size + 1, 0, none⟩ (.agg #[.int .i64 x, .int .i64 y, .int .i64 z]) rfl (run_loadVar_row _ _ 77 77 _ (0, 0) _ ?_ Tryz.underlying77 rfl (by kernel_rfl))) rfl ?_
 ·have := alloc_new (w.alloc (.cells #[.int .i64 x, .int .i64 z, .int .i64 y] 39)) (.cells #[.int .i64 x, .int .i64 y, .int .i64 z] 77)
  rw [World.size_alloc] at this
  exact this
 ·exact ⟨rfl, ((Keep.refl _ w).alloc _).alloc _⟩
end Go.Proofs.YtnjilcokkhodmaaGreatDoor

namespace Go.Proofs.YtnjilcokkhodmaaGreatDoor
open Go.RowKit Go.Shelf
set_option linter.unusedVariables false

/-- A table: its log, and by state the symbol, the bits and the base. -/
structure Tb where
 l : Nat
 sy : Nat → Nat
 bi : Nat → Nat
 ba : Nat → Nat
def tbX (xs : List Int) (l : Nat) : Tb := ⟨l, symF xs (2 ^ l), fun i => bitF l (xF xs (2 ^ l) i), fun i => baseF l (xF xs (2 ^ l) i)⟩
def tbA (c : Nat) : Tb := ⟨0, fun _ => c, fun _ => 0, fun _ => 0⟩
def IsTb (w : World) (g : Nat) (T : Tb) : Prop := RowT w g (2 ^ T.l) T.sy T.bi T.ba
theorem IsTb.keep {w w' : World} {S : Nat → Prop} {g : Nat} {T : Tb} (h : IsTb w g T) (hk : Keep S w w') (hS : ¬ S g) : IsTb w' g T := RowT.keep h hk hS
/-- The table that is not told is one. -/
structure KDef (K : Kd) : Prop where
 ok : okT K.cs (K.l : Int) = true
 i16 : I16 K.cs
 nz : ∀ c, c < K.cs.length → K.cs[c]?.getD 0 ≠ 0
 le : K.cs.length ≤ K.codes
 l9 : K.l ≤ 9
theorem kdef_check (K : Kd) (h1 : okT K.cs (K.l : Int) = true) (h2 : (K.cs.all (fun x => decide (-32768 ≤ x ∧ x ≤ 32767 ∧ x ≠ 0)) && decide (K.cs.length ≤ K.codes) && decide (K.l ≤ 9)) = true) : KDef K := by
 simp only [Bool.and_eq_true, decide_eq_true_eq, List.all_eq_true] at h2
 obtain ⟨⟨h3, h4⟩, h5⟩ := h2
 refine ⟨h1, fun i => ?_, fun c hc => ?_, h4, h5⟩
 ·by_cases hi : i < K.cs.length
  ·rw [List.getElem?_eq_getElem hi]
   have := h3 _ (List.getElem_mem hi)
   exact ⟨this.1, this.2.1⟩
  ·rw [List.getElem?_eq_none (by omega)]
   simp
 ·rw [List.getElem?_eq_getElem hc]
  exact (h3 _ (List.getElem_mem hc)).2.2
theorem kdefL : KDef kdL := kdef_check _ (by kernel_rfl) (by kernel_rfl)
theorem kdefB : KDef kdB := kdef_check _ (by kernel_rfl) (by kernel_rfl)
theorem kdefM : KDef kdM := kdef_check _ (by kernel_rfl) (by kernel_rfl)
end Go.Proofs.YtnjilcokkhodmaaGreatDoor

namespace Go.Proofs.YtnjilcokkhodmaaGreatDoor
open Go.RowKit Go.Shelf
set_option linter.unusedVariables false

theorem alone_tab (w : World) (c : Nat) : IsTb (w.alloc (.cells #[.int .u8 (c : Int), .int .u8 0, .int .u16 0] 130)) w.heap.size (tbA c) := by
 have ho := alloc_new w (.cells #[.int .u8 (c : Int), .int .u8 0, .int .u16 0] 130)
 refine ⟨fun i hi => ?_, by simp⟩
 obtain rfl : i = 0 := by simpa [tbA] using hi
 rw [cell_of ho, cell_of ho, cell_of ho]
 exact ⟨rfl, rfl, rfl⟩
theorem aloneTable_any (c : Nat) (w : World) : Calls Tryz.prog 102 #[.int .u8 (c : Int)] w fun e w' => e = .returned (.slice (some ⟨w.heap.size, 0, none⟩) 1 1) ∧ w' = w.alloc (.cells #[.int .u8 (c : Int), .int .u8 0, .int .u16 0] 130) := by
 go_enter Tryz.func102, Tryz.ntmps102
 go_wp2_with fail
 go_ret
 exact ⟨rfl, rfl⟩

def kindsC : Array Value := #[.func (.func 81) #[] #[], .func (.func 82) #[] #[], .func (.func 83) #[] #[], .func (.func 84) #[] #[], .func (.func 85) #[] #[], .func (.func 86) #[] #[], .func (.func 87) #[] #[], .func (.func 88) #[] #[]]
set_option maxHeartbeats 1000000 in
theorem kinds_any (w : World) : Calls Tryz.prog 65 #[] w fun e w' => e = .returned (.agg kindsC) ∧ Keep noBlock w w' := by
 go_enter Tryz.func65, Tryz.ntmps65
 go_wp2_with (refine wpList_store_row rfl 137 (.tmp 0) (.tmp 5) rfl w.heap.size kindsC rfl rfl 137 _ (World.alloc_heap_new w _) (by kernel_rfl) (by kernel_rfl) (by kernel_rfl) ?_; rw [World.setRow_alloc_new])
 refine bodyPost_ret (results_cell rfl _ _ _ ⟨w.heap.size, 0, none⟩ (.agg kindsC) rfl (run_loadVar_row _ _ 137 137 _ (0, 0) _ (alloc_new w _) Tryz.underlying137 rfl (by kernel_rfl))) rfl ?_
 exact ⟨rfl, (Keep.refl _ w).alloc _⟩
end Go.Proofs.YtnjilcokkhodmaaGreatDoor

namespace Go.Proofs.YtnjilcokkhodmaaGreatDoor
open Go.RowKit Go.Shelf
set_option linter.unusedVariables false

theorem drop_block {a a' : Option Addr} {n cap k m c' : Nat} (hk : k ≤ n) (h : ∀ W, (sliceSem 22 (.slice a n cap) (some (.int .i64 (k : Int))) none none).run Tryz.prog W = .ok (.slice a' m c') W) (w : World) : ∀ p', a' = some p' → ∃ p, a = some p ∧ p.block = p'.block := by
  intro p' hp
  have h1 := h w
  rw [run_low5 a n cap k hk w] at h1
  simp only [Result.ok.injEq, Value.slice.injEq, and_true] at h1
  have h2 := h1.1
  rw [hp] at h2
  split at h2
  · exact ⟨p', h2, rfl⟩
  · cases a with
    | none => cases h2
    | some q =>
      simp only [Option.map_some, Option.some.injEq] at h2
      exact ⟨q, rfl, by rw [← h2]; unfold Addr.add; first | rfl | (split <;> rfl)⟩
def Sec (w : World) (sb g : Nat) (bs : List Nat) : Prop := ∃ a cap off, IsSec w sb (.slice a bs.length cap) ∧ Bytes w a cap g off bs ∧ g ≠ sb ∧ ∀ p, a = some p → p.block < w.heap.size
theorem Sec.keep {w w' : World} {S : Nat → Prop} {sb g : Nat} {bs : List Nat} (h : Sec w sb g bs) (hk : Keep S w w') (h1 : ¬ S sb) (h2 : ¬ S g) : Sec w' sb g bs := by
 obtain ⟨a, cap, off, q1, q2, q3, q4⟩ := h
 exact ⟨a, cap, off, q1.keep hk h1, q2.keep hk (fun _ => h2), q3, fun p hp => Nat.lt_of_lt_of_le (q4 p hp) hk.size⟩
theorem sec_next (sb g x : Nat) (bs : List Nat) (w : World) (h : Sec w sb g (x :: bs)) :
  Calls Tryz.prog 62 #[.pointer (some ⟨sb, 0, none⟩)] w fun e w' => e = .returned (.tuple #[.int .i64 (x : Int), .bool true]) ∧ Sec w' sb g bs ∧ Keep (fun k => k = sb) w w' := by
 obtain ⟨a, cap, off, q1, q2, q3, q4⟩ := h
 obtain rfl := q2.at_.resolve_right (by simp)
 have hx : x < 256 := q2.lt 0
 have hc := q2.cells 0 (by simp)
 obtain ⟨a', off', hs, hB, -⟩ := q2.drop 1 (by simp)
 have hbl := drop_block (by simp) hs w
 rw [Nat.add_zero] at hc
 refine (next_some sb g off bs.length cap x (cap - 1) a' w q1 hc hx hs).mono ?_
 rintro e w' ⟨rfl, r1, r2⟩
 refine ⟨rfl, ⟨a', cap - 1, off', r1, hB.keep r2 (fun _ => q3), q3, fun p hp => ?_⟩, r2⟩
 obtain ⟨p0, e1, e2⟩ := hbl p hp
 have := q4 p0 e1
 have := r2.size
 omega
theorem sec_end (sb g : Nat) (w : World) (h : Sec w sb g []) :
  Calls Tryz.prog 62 #[.pointer (some ⟨sb, 0, none⟩)] w fun e w' => e = .returned (.tuple #[.int .i64 0, .bool false]) ∧ Keep (fun k => k = sb) w w' := by
 obtain ⟨a, cap, off, q1, q2, q3, -⟩ := h
 refine (next_none sb a cap w q1).mono ?_
 rintro e w' ⟨rfl, h2⟩
 exact ⟨rfl, by subst h2; exact Keep.refl _ _⟩
def NxP (w : World) (sb g : Nat) (bs : List Nat) (e : Ending) (w' : World) : Prop :=
 Keep (fun k => k = sb) w w' ∧ match bs with
  | [] => e = .returned (.tuple #[.int .i64 0, .bool false])
  | x :: r => e = .returned (.tuple #[.int .i64 (x : Int), .bool true]) ∧ Sec w' sb g r
theorem next_all (sb g : Nat) (bs : List Nat) (w : World) (h : Sec w sb g bs) : Calls Tryz.prog 62 #[.pointer (some ⟨sb, 0, none⟩)] w fun e w' => NxP w sb g bs e w' := by
 cases bs with
 | nil => exact (sec_end sb g w h).mono fun e w' q => ⟨q.2, q.1⟩
 | cons x r => exact (sec_next sb g x r w h).mono fun e w' q => ⟨q.2.2, q.1, q.2.1⟩
theorem Sec.lt {w : World} {sb g : Nat} {bs : List Nat} (h : Sec w sb g bs) : ∀ j : Nat, bs[j]?.getD 0 < 256 := by
 obtain ⟨a, cap, off, q1, q2, q3, -⟩ := h
 exact q2.lt

def numS : List Nat → Option (Nat × List Nat)
  | [] => none
  | a :: r => if a < 128 then some (a, r) else match r with
    | [] => none
    | b :: r2 => if a < 255 then some ((a - 128) * 256 + b, r2) else match r2 with
      | [] => none
      | c :: r3 => some (b + c * 256 + 32512, r3)
theorem numS_lt {bs : List Nat} (hb : ∀ j : Nat, bs[j]?.getD 0 < 256) {n : Nat} {r : List Nat} (h : numS bs = some (n, r)) : n ≤ 98047 ∧ ∃ k, r = bs.drop k := by
  match bs, h with
  | [], h => simp [numS] at h
  | [a], h =>
    have ha : a < 256 := hb 0
    by_cases h1 : a < 128
    · simp [numS, h1] at h
      exact ⟨by omega, 1, by rw [← h.2]; rfl⟩
    · simp [numS, h1] at h
  | [a, b], h =>
    have ha : a < 256 := hb 0
    have hb1 : b < 256 := hb 1
    by_cases h1 : a < 128
    · simp [numS, h1] at h
      exact ⟨by omega, 1, by rw [← h.2]; rfl⟩
    · by_cases h2 : a < 255
      · simp [numS, h1, h2] at h
        exact ⟨by omega, 2, by rw [← h.2]; rfl⟩
      · simp [numS, h1, h2] at h
  | a :: b :: c :: r3, h =>
    have ha : a < 256 := hb 0
    have hb1 : b < 256 := hb 1
    have hb2 : c < 256 := hb 2
    by_cases h1 : a < 128
    · simp [numS, h1] at h
      exact ⟨by omega, 1, by rw [← h.2]; rfl⟩
    · by_cases h2 : a < 255
      · simp [numS, h1, h2] at h
        exact ⟨by omega, 2, by rw [← h.2]; rfl⟩
      · simp [numS, h1, h2] at h
        exact ⟨by omega, 3, by rw [← h.2]; rfl⟩
def NuP (w : World) (sb g : Nat) (R : Option (Nat × List Nat)) (e : Ending) (w' : World) : Prop :=
 Keep (fun k => k = sb) w w' ∧ match R with
  | none => ∃ v, e = .returned (.tuple #[v, .bool false])
  | some (n, r) => e = .returned (.tuple #[.int .i64 (n : Int), .bool true]) ∧ Sec w' sb g r

set_option maxHeartbeats 4000000 in
theorem number_all (sb g : Nat) (bs : List Nat) (w : World) (h : Sec w sb g bs) :
    Calls Tryz.prog 48 #[.pointer (some ⟨sb, 0, none⟩)] w fun e w' => NuP w sb g (numS bs) e w' := by
  have hlt := h.lt
  cases bs with
  | nil =>
    have HN := hid (sec_end sb g w h)
    clear h hlt
    go_enter Tryz.func48, Tryz.ntmps48
    go_wp2_with fail
    refine HN.out.mono ?_
    rintro e w' ⟨rfl, h2⟩
    have HF := hid h2
    clear h2
    go_wp2_with fail
    go_ret2
    exact ⟨HF.out, _, rfl⟩
  | cons a r =>
    have ha : a < 256 := hlt 0
    by_cases h1 : a < 128
    · have HN := hid (sec_next sb g a r w h)
      have hx1 : decide ((a : Int) < 128) = true := decide_eq_true (by omega)
      have HR := hid (show numS (a :: r) = some (a, r) from by simp [numS, h1])
      clear h hlt
      go_enter Tryz.func48, Tryz.ntmps48
      go_wp2_with fail
      refine HN.out.mono ?_
      rintro e w' ⟨rfl, h1, h2⟩
      have HF := hid (And.intro h1 h2)
      clear h1 h2
      go_wp2_with fail
      go_ret2
      rw [HR.out]
      exact ⟨HF.out.2, rfl, HF.out.1⟩
    · have hx1 : decide ((a : Int) < 128) = false := decide_eq_false (by omega)
      have HN := hid (sec_next sb g a r w h)
      obtain ⟨d, hd⟩ : ∃ d, d = a - 128 := ⟨_, rfl⟩
      have hdI : (a : Int) - 128 = (d : Int) := by omega
      obtain ⟨f, hf⟩ : ∃ f, f = d * 256 := ⟨_, rfl⟩
      have hfI : (d : Int) * 256 = (f : Int) := by omega
      have hdb : (d : Int) < 128 := by omega
      have hfb : (f : Int) < 65536 := by omega
      have hwd : IntKind.i64.wrap (d : Int) = (d : Int) := by rw [IntKind.wrap_i64]; omega
      have hwf : IntKind.i64.wrap (f : Int) = (f : Int) := by rw [IntKind.wrap_i64]; omega
      cases r with
      | nil =>
        have HN2 := (show Hid (∀ w', Sec w' sb g [] → _) from fun w' h' => sec_end sb g w' h')
        have HR := hid (show numS [a] = none from by simp [numS, h1])
        have hf0 : (f : Int) + 0 = (f : Int) := by omega
        clear h hlt hd hf
        go_enter Tryz.func48, Tryz.ntmps48
        go_wp2_with fail
        refine HN.out.mono ?_
        rintro e w' ⟨rfl, h1, h2⟩
        have HM := hid (HN2.out w' h1)
        have HK := hid h2
        clear h1 h2 HN HN2
        go_wp2_with fail
        refine HM.out.mono ?_
        rintro e w2 ⟨rfl, h2⟩
        have HF := hid (HK.out.trans' h2)
        clear h2 HM HK
        go_wp2_with fail
        go_ret2
        rw [HR.out]
        exact ⟨HF.out, _, rfl⟩
      | cons b r2 =>
        have hb : b < 256 := hlt 1
        have HN2 := (show Hid (∀ w', Sec w' sb g (b :: r2) → _) from fun w' h' => sec_next sb g b r2 w' h')
        by_cases h2 : a < 255
        · have hx2 : decide ((a : Int) < 255) = true := decide_eq_true (by omega)
          obtain ⟨n, hn⟩ : ∃ n, n = f + b := ⟨_, rfl⟩
          have hnI : (f : Int) + (b : Int) = (n : Int) := by omega
          have hnb : (n : Int) < 65536 := by omega
          have hwn : IntKind.i64.wrap (n : Int) = (n : Int) := by rw [IntKind.wrap_i64]; omega
          have HR := hid (show numS (a :: b :: r2) = some (n, r2) from by simp [numS, h1, h2, hn, hf, hd])
          clear h hlt hd hf hn
          go_enter Tryz.func48, Tryz.ntmps48
          go_wp2_with fail
          refine HN.out.mono ?_
          rintro e w' ⟨rfl, h1, h2⟩
          have HM := hid (HN2.out w' h1)
          have HK := hid h2
          clear h1 h2 HN HN2
          go_wp2_with fail
          refine HM.out.mono ?_
          rintro e w2 ⟨rfl, h1, h2⟩
          have HF := hid (And.intro h1 (HK.out.trans' h2))
          clear h1 h2 HM HK
          go_wp2_with fail
          go_ret2
          rw [HR.out]
          exact ⟨HF.out.2, rfl, HF.out.1⟩
        · have hx2 : decide ((a : Int) < 255) = false := decide_eq_false (by omega)
          cases r2 with
          | nil =>
            have HN3 := (show Hid (∀ w', Sec w' sb g [] → _) from fun w' h' => sec_end sb g w' h')
            have HR := hid (show numS [a, b] = none from by simp [numS, h1, h2])
            have hbI : (b : Int) < 256 := by omega
            clear h hlt hd hf
            go_enter Tryz.func48, Tryz.ntmps48
            go_wp2_with fail
            refine HN.out.mono ?_
            rintro e w' ⟨rfl, h1, h2⟩
            have HM := hid (HN2.out w' h1)
            have HK := hid h2
            clear h1 h2 HN HN2
            go_wp2_with fail
            refine HM.out.mono ?_
            rintro e w2 ⟨rfl, h1, h2⟩
            have HM2 := hid (HN3.out w2 h1)
            have HK2 := hid (HK.out.trans' h2)
            clear h1 h2 HM HK HN3
            go_wp2_with fail
            refine HM2.out.mono ?_
            rintro e w3 ⟨rfl, h2⟩
            have HF := hid (HK2.out.trans' h2)
            clear h2 HM2 HK2
            go_wp2_with fail
            go_ret2
            rw [HR.out]
            exact ⟨HF.out, _, rfl⟩
          | cons c r3 =>
            have hc : c < 256 := hlt 2
            have HN3 := (show Hid (∀ w', Sec w' sb g (c :: r3) → _) from fun w' h' => sec_next sb g c r3 w' h')
            obtain ⟨f2, hf2⟩ : ∃ f2, f2 = c * 256 := ⟨_, rfl⟩
            have hf2I : (c : Int) * 256 = (f2 : Int) := by omega
            obtain ⟨s, hs⟩ : ∃ s, s = b + f2 := ⟨_, rfl⟩
            have hsI : (b : Int) + (f2 : Int) = (s : Int) := by omega
            obtain ⟨n, hn⟩ : ∃ n, n = s + 32512 := ⟨_, rfl⟩
            have hnI : (s : Int) + 32512 = (n : Int) := by omega
            have hcb : (c : Int) < 256 := by omega
            have hf2b : (f2 : Int) < 65536 := by omega
            have hsb : (s : Int) < 66000 := by omega
            have hnb : (n : Int) < 99000 := by omega
            have hwf2 : IntKind.i64.wrap (f2 : Int) = (f2 : Int) := by rw [IntKind.wrap_i64]; omega
            have hws : IntKind.i64.wrap (s : Int) = (s : Int) := by rw [IntKind.wrap_i64]; omega
            have hwn : IntKind.i64.wrap (n : Int) = (n : Int) := by rw [IntKind.wrap_i64]; omega
            have HR := hid (show numS (a :: b :: c :: r3) = some (n, r3) from by simp [numS, h1, h2, hn, hs, hf2])
            clear h hlt hd hf hf2 hs hn
            go_enter Tryz.func48, Tryz.ntmps48
            go_wp2_with fail
            refine HN.out.mono ?_
            rintro e w' ⟨rfl, h1, h2⟩
            have HM := hid (HN2.out w' h1)
            have HK := hid h2
            clear h1 h2 HN HN2
            go_wp2_with fail
            refine HM.out.mono ?_
            rintro e w2 ⟨rfl, h1, h2⟩
            have HM2 := hid (HN3.out w2 h1)
            have HK2 := hid (HK.out.trans' h2)
            clear h1 h2 HM HK HN3
            go_wp2_with fail
            refine HM2.out.mono ?_
            rintro e w3 ⟨rfl, h1, h2⟩
            have HF := hid (And.intro h1 (HK2.out.trans' h2))
            clear h1 h2 HM2 HK2
            go_wp2_with fail
            go_ret2
            rw [HR.out]
            exact ⟨HF.out.2, rfl, HF.out.1⟩
end Go.Proofs.YtnjilcokkhodmaaGreatDoor

namespace Go.Proofs.YtnjilcokkhodmaaGreatDoor
open Go.RowKit Go.Shelf
set_option linter.unusedVariables false

def kdV : Nat → Kd
 | 0 => kdL
 | 1 => kdB
 | _ => kdM
end Go.Proofs.YtnjilcokkhodmaaGreatDoor

namespace Go.Proofs.YtnjilcokkhodmaaGreatDoor
open Go.RowKit Go.Shelf
set_option linter.unusedVariables false

/-- A table by which codes of a coding are read. -/
structure GoodT (K : Kd) (T : Tb) : Prop where
 hl : T.l ≤ K.ml
 ml : K.ml ≤ 9
 sy : ∀ s, s < 2 ^ T.l → T.sy s < K.codes
 bi : ∀ s, s < 2 ^ T.l → T.bi s ≤ 9
 ba : ∀ s, s < 2 ^ T.l → T.ba s + 2 ^ T.bi s ≤ 2 ^ T.l
def cntY (sy : Nat → Nat) : Nat → Nat → Nat
 | 0, _ => 0
 | k + 1, s => cntY sy k s + (if sy k = s then 1 else 0)
theorem cntY_le (sy : Nat → Nat) (s : Nat) : ∀ k, cntY sy k s ≤ k
  | 0 => Nat.le_refl _
  | k + 1 => by
    have := cntY_le sy s k
    unfold cntY
    split <;> omega
theorem cntY_mono (sy : Nat → Nat) (s k : Nat) : ∀ d, cntY sy k s ≤ cntY sy (k + d) s
  | 0 => Nat.le_refl _
  | d + 1 => by
    have := cntY_mono sy s k d
    show _ ≤ cntY sy (k + d) s + _
    omega
theorem cntY_pos (sy : Nat → Nat) {k n : Nat} (h : k < n) : 1 ≤ cntY sy n (sy k) := by
 have h1 : cntY sy (k + 1) (sy k) = cntY sy k (sy k) + 1 := by simp [cntY]
 obtain ⟨d, rfl⟩ : ∃ d, n = k + 1 + d := ⟨n - (k + 1), by omega⟩
 have := cntY_mono sy (sy k) (k + 1) d
 omega
def xT (T : Tb) (k : Nat) : Nat := cntY T.sy (2 ^ T.l) (T.sy k) + cntY T.sy k (T.sy k)
def chkT (T : Tb) (k : Nat) : Bool := decide ((T.bi k : Int) = (T.l : Int) - ((lenN (xT T k) : Int) - 1)) && decide ((T.ba k : Int) = ((xT T k * 2 ^ T.bi k : Nat) : Int) - ((2 ^ T.l : Nat) : Int))
def allT (T : Tb) : Nat → Bool
 | 0 => true
 | k + 1 => allT T k && chkT T k
def isTabB (T : Tb) : Bool := (decide (T.l = 0) || decide (5 ≤ T.l)) && allT T (2 ^ T.l)
theorem allT_no {T : Tb} {k : Nat} (h : chkT T k = false) : ∀ n, k < n → allT T n = false
  | 0, hn => by omega
  | n + 1, hn => by
    unfold allT
    by_cases e : k = n
    · subst e; rw [h, Bool.and_false]
    · rw [allT_no h n (by omega), Bool.false_and]
theorem zero234 : (#[.int .i64 0, .int .i64 0, .int .i64 0, .int .i64 0, .int .i64 0, .int .i64 0, .int .i64 0, .int .i64 0, .int .i64 0, .int .i64 0, .int .i64 0, .int .i64 0, .int .i64 0, .int .i64 0, .int .i64 0, .int .i64 0, .int .i64 0, .int .i64 0, .int .i64 0, .int .i64 0, .int .i64 0, .int .i64 0, .int .i64 0, .int .i64 0, .int .i64 0, .int .i64 0, .int .i64 0, .int .i64 0, .int .i64 0, .int .i64 0, .int .i64 0, .int .i64 0, .int .i64 0, .int .i64 0, .int .i64 0, .int .i64 0, .int .i64 0, .int .i64 0, .int .i64 0, .int .i64 0, .int .i64 0, .int .i64 0, .int .i64 0, .int .i64 0, .int .i64 0, .int .i64 0, .int .i64 0, .int .i64 0, .int .i64 0, .int .i64 0, .int .i64 0, .int .i64 0, .int .i64 0] : Array Value) = (List.replicate 53 (Value.int .i64 0)).toArray := by kernel_rfl

set_option maxRecDepth 100000 in
set_option maxHeartbeats 8000000 in
theorem isTable_any (w : World) (b o gk tg cap : Nat) (K : Kd) (T : Tb) (hC : Coding w b o gk K) (hT : IsTb w tg T) (hG : GoodT K T) :
  Calls Tryz.prog 107 #[.pointer (some ⟨b, o, none⟩), .slice (some ⟨tg, 0, none⟩) (2 ^ T.l) cap] w fun e w' => e = .returned (.bool (isTabB T)) ∧ Keep noBlock w w' := by
 have c1 := hC.ml
 have hl9 : T.l ≤ 9 := Nat.le_trans hG.hl hG.ml
 have hS : 2 ^ T.l ≤ 512 := Nat.pow_le_pow_right (n := 2) (j := 9) (by omega) hl9
 obtain ⟨S, hSe⟩ : ∃ S, S = 2 ^ T.l := ⟨_, rfl⟩
 obtain ⟨l, hle⟩ : ∃ l, l = T.l := ⟨_, rfl⟩
 obtain ⟨ml, hml⟩ : ∃ ml, ml = K.ml := ⟨_, rfl⟩
 have HLg := (show Hid (∀ W : World, Calls Tryz.prog 69 #[.slice (some ⟨tg, 0, none⟩) S cap] W fun e w' => e = .returned (.int .i64 (l : Int)) ∧ w' = W) from fun W => by rw [hle]; exact logOf_any (some ⟨tg, 0, none⟩) S T.l cap hSe (by omega) W)
 have hlm : l ≤ ml := by rw [hle, hml]; exact hG.hl
 rw [← hml] at c1
 rw [← hSe] at hS ⊢
 rw [← hle] at hl9
 have hpl : (2 : Int) ^ l = (S : Int) := by rw [hSe, hle]; simp
 have hm9 : ml ≤ 9 := by rw [hml]; exact hG.ml
 have HH := (show Hid (Coding w b o gk K ∧ IsTb w tg T ∧ GoodT K T ∧ S = 2 ^ T.l ∧ l = T.l) from ⟨hC, hT, hG, hSe, hle⟩)
 by_cases hA : l ≠ 0 ∧ l < 5
 ·have HF := hid (show isTabB T = false from by unfold isTabB; rw [← hle, decide_eq_false hA.1, decide_eq_false (show ¬ 5 ≤ l by omega)]; rfl)
  have g1 : ((l : Int) != 0) = true := by simp; omega
  have g2 : decide ((l : Int) < 5) = true := decide_eq_true (by omega)
  clear hC hT hG hSe hle hml
  go_enter Tryz.func107, Tryz.ntmps107
  go_wp2_with fail
  refine (HLg.out _).mono ?_
  rintro e w1 ⟨rfl, rfl⟩
  go_wp2_with fail
  go_ret
  exact ⟨by rw [HF.out]; rfl, Keep.refl _ _⟩
 ·have HA := (show Hid (IsA (w.alloc (.cells #[.int .i64 0, .int .i64 0, .int .i64 0, .int .i64 0, .int .i64 0, .int .i64 0, .int .i64 0, .int .i64 0, .int .i64 0, .int .i64 0, .int .i64 0, .int .i64 0, .int .i64 0, .int .i64 0, .int .i64 0, .int .i64 0, .int .i64 0, .int .i64 0, .int .i64 0, .int .i64 0, .int .i64 0, .int .i64 0, .int .i64 0, .int .i64 0, .int .i64 0, .int .i64 0, .int .i64 0, .int .i64 0, .int .i64 0, .int .i64 0, .int .i64 0, .int .i64 0, .int .i64 0, .int .i64 0, .int .i64 0, .int .i64 0, .int .i64 0, .int .i64 0, .int .i64 0, .int .i64 0, .int .i64 0, .int .i64 0, .int .i64 0, .int .i64 0, .int .i64 0, .int .i64 0, .int .i64 0, .int .i64 0, .int .i64 0, .int .i64 0, .int .i64 0, .int .i64 0, .int .i64 0] 234)) w.heap.size 234 .i64 53 (fun _ => 0) ∧ Keep noBlock w (w.alloc (.cells #[.int .i64 0, .int .i64 0, .int .i64 0, .int .i64 0, .int .i64 0, .int .i64 0, .int .i64 0, .int .i64 0, .int .i64 0, .int .i64 0, .int .i64 0, .int .i64 0, .int .i64 0, .int .i64 0, .int .i64 0, .int .i64 0, .int .i64 0, .int .i64 0, .int .i64 0, .int .i64 0, .int .i64 0, .int .i64 0, .int .i64 0, .int .i64 0, .int .i64 0, .int .i64 0, .int .i64 0, .int .i64 0, .int .i64 0, .int .i64 0, .int .i64 0, .int .i64 0, .int .i64 0, .int .i64 0, .int .i64 0, .int .i64 0, .int .i64 0, .int .i64 0, .int .i64 0, .int .i64 0, .int .i64 0, .int .i64 0, .int .i64 0, .int .i64 0, .int .i64 0, .int .i64 0, .int .i64 0, .int .i64 0, .int .i64 0, .int .i64 0, .int .i64 0, .int .i64 0, .int .i64 0] 234))) from ⟨by rw [zero234]; exact isA_zeros w 234 .i64 53, (Keep.refl _ w).alloc _⟩)
  have g3 : ¬ ml < l := by omega
  have g3D : decide (ml < l) = false := decide_eq_false g3
  have hl9I : (l : Int) ≤ 9 := by omega
  have hS5 : (S : Int) ≤ 512 := by omega
  have HZ : Hid ((l : Int) = 0 ∨ (((l : Int) != 0) = true ∧ decide ((l : Int) < 5) = false)) := by
   by_cases hz : l = 0
   ·left; omega
   ·right; exact ⟨by simp; omega, decide_eq_false (by omega)⟩
  have HC0 := (show Hid (IsTb w tg T ∧ Coding w b o gk K) from ⟨hT, hC⟩)
  clear hC hT hG hSe hle hml
  go_enter Tryz.func107, Tryz.ntmps107
  go_wp2_with fail
  refine (HLg.out _).mono ?_
  rintro e w1 ⟨rfl, rfl⟩
  clear HLg
  generalize hnb : w1.heap.size = nb at HA ⊢
  rcases HZ.out with hz | ⟨hz1, hz2⟩
  ·have hz0 : ((l : Int) != 0) = false := by rw [hz]; rfl
   clear hz
   go_wp2_with fail
   generalize hW1 : w1.alloc (.cells #[.int .i64 0, .int .i64 0, .int .i64 0, .int .i64 0, .int .i64 0, .int .i64 0, .int .i64 0, .int .i64 0, .int .i64 0, .int .i64 0, .int .i64 0, .int .i64 0, .int .i64 0, .int .i64 0, .int .i64 0, .int .i64 0, .int .i64 0, .int .i64 0, .int .i64 0, .int .i64 0, .int .i64 0, .int .i64 0, .int .i64 0, .int .i64 0, .int .i64 0, .int .i64 0, .int .i64 0, .int .i64 0, .int .i64 0, .int .i64 0, .int .i64 0, .int .i64 0, .int .i64 0, .int .i64 0, .int .i64 0, .int .i64 0, .int .i64 0, .int .i64 0, .int .i64 0, .int .i64 0, .int .i64 0, .int .i64 0, .int .i64 0, .int .i64 0, .int .i64 0, .int .i64 0, .int .i64 0, .int .i64 0, .int .i64 0, .int .i64 0, .int .i64 0, .int .i64 0, .int .i64 0] 234) = W1 at HA ⊢
   go_loopw [38] (fun v38 wr => ∃ i : Nat, v38 = .int .i64 (i : Int) ∧ i ≤ S ∧ Hid (IsA wr nb 234 .i64 53 (fun s => ((cntY T.sy i s : Nat) : Int)) ∧ Keep noBlock w1 wr)) (fun v38 _ => S - (intOf v38).toNat)
   case atStart => exact ⟨0, rfl, Nat.zero_le _, HA.out.1.congr (fun i _ => rfl), HA.out.2⟩
   case round =>
    obtain ⟨i, rfl, hi, HC⟩ := hrel
    by_cases hlt : i < S
    ·have hiI : (i : Int) < (S : Int) := by omega
     obtain ⟨h1, h2⟩ := HC.out
     have hTb := HC0.out.1.keep h2 (fun h => h)
     have hCd := HC0.out.2.keep h2 (fun h => h) (fun h => h)
     obtain ⟨d1, d2, d3⟩ := hTb.cells i (by rw [← HH.out.2.2.2.1]; exact hlt)
     have hsy := HH.out.2.2.1.sy i (by rw [← HH.out.2.2.2.1]; exact hlt)
     have hcl := HH.out.1.ok.le
     have c0 := hCd.codes
     obtain ⟨sy, hsye⟩ : ∃ sy, sy = T.sy i := ⟨_, rfl⟩
     obtain ⟨bi, hbie⟩ : ∃ bi, bi = T.bi i := ⟨_, rfl⟩
     obtain ⟨ba, hbae⟩ : ∃ ba, ba = T.ba i := ⟨_, rfl⟩
     obtain ⟨m, hm⟩ : ∃ m, m = K.codes := ⟨_, rfl⟩
     rw [← hsye] at d1 hsy
     rw [← hbie] at d2
     rw [← hbae] at d3
     rw [← hm] at c0 hsy hcl
     have hb := hCd.lt
     have htl := hTb.lt
     have hnl := h1.lt
     obtain ⟨V, hV⟩ : ∃ V, V = wr.alloc (.cells #[.int .u8 (sy : Int), .int .u8 (bi : Int), .int .u16 (ba : Int)] 130) := ⟨_, rfl⟩
     have kV : Keep noBlock wr V := by rw [hV]; exact (Keep.refl _ wr).alloc _
     have oV : V.heap[wr.heap.size]? = some (.cells #[.int .u8 (sy : Int), .int .u8 (bi : Int), .int .u16 (ba : Int)] 130 (0, 0)) := by rw [hV]; exact alloc_new wr _
     have e0 : V.cell? ⟨wr.heap.size, 0, none⟩ = some (.int .u8 (sy : Int)) := cell_of oV 0
     have e1 : V.cell? ⟨b, o, none⟩ = some (.int .i64 (m : Int)) := keep_cell0 kV c0
     obtain ⟨V2, hV2⟩ : ∃ V2, V2 = V.drew := ⟨_, rfl⟩
     have kV2 : Keep noBlock wr V2 := by rw [hV2]; exact kV.drew
     have hA2 := h1.keep kV2 (fun h => h)
     have hs53 : sy < 53 := by omega
     have q0 : V2.cell? ⟨wr.heap.size, 0, none⟩ = some (.int .u8 (sy : Int)) := by rw [hV2]; exact e0
     have q2 := hA2.cell sy hs53
     have f2 := hA2.frozen sy
     obtain ⟨x, hx⟩ : ∃ x, x = cntY T.sy i sy := ⟨_, rfl⟩
     rw [← hx] at q2
     have hxb : x ≤ 512 := by have := cntY_le T.sy sy i; omega
     have HN := (show Hid (IsA (V2.setCell ⟨nb, sy, none⟩ (.int .i64 ((x + 1 : Nat) : Int))) nb 234 .i64 53 (fun s => ((cntY T.sy (i + 1) s : Nat) : Int)) ∧ Keep noBlock w1 (V2.setCell ⟨nb, sy, none⟩ (.int .i64 ((x + 1 : Nat) : Int)))) from by
      refine ⟨(hA2.set sy _).congr (fun j _ => ?_), (h2.trans' kV2).trans ((Keep.refl (fun k => k = nb) V2).setCell (p := ⟨nb, sy, none⟩) (fun _ => rfl) _) (fun j hj e => by omega)⟩
      simp only [cntY, ← hsye]
      by_cases e : j = sy
      ·rw [if_pos e, e, if_pos rfl, hx]
      ·rw [if_neg e, if_neg (fun h => e h.symm), Nat.add_zero])
     have hxI : (x : Int) + 1 = ((x + 1 : Nat) : Int) := by omega
     obtain ⟨x1, hx1⟩ : ∃ x1, x1 = x + 1 := ⟨_, rfl⟩
     rw [← hx1] at hxI HN
     have hx1b : (x1 : Int) ≤ 513 := by omega
     have hwsy : IntKind.i64.wrap (sy : Int) = (sy : Int) := by rw [IntKind.wrap_i64]; omega
     have hsyN : ¬ m ≤ sy := by omega
     have hsyI : ¬ (m : Int) ≤ (sy : Int) := by omega
     have hsyD : decide (m ≤ sy) = false := decide_eq_false hsyN
     have hs5I : (sy : Int) < 53 := by omega
     have hsy256 : (sy : Int) < 256 := by omega
     have HV2 := hid hV2
     have HV := hid hV
     clear h1 h2 hTb hCd hsye hbie hbae hm hA2 hx HC oV kV kV2 hb htl hnl hx1 hsy hcl hxb c0 hV2
     rw [hV] at e0 e1
     go_wp2_with fail
     go_region_held3 (fun W => W.cell? ⟨wr.heap.size, 0, none⟩ = some (.int .u8 (sy : Int)) ∧ W.cell? ⟨b, o, none⟩ = some (.int .i64 (m : Int))) (first | exact ⟨e0, e1⟩ | assumption) (fail)
     rw [← HV.out, ← HV2.out]
     clear e0 e1 HV HV2 hV
     go_wp2_with fail
     go_roundw
     case rel => exact ⟨i + 1, by go_num, by omega, HN.out⟩
     case measure => simp [intOf]; omega
    ·obtain rfl : i = S := by omega
     clear HA
     have HC2 := (show Hid (IsA wr nb 234 .i64 53 (fun s => ((cntY T.sy i s + cntY T.sy 0 s : Nat) : Int)) ∧ Keep noBlock w1 wr) from ⟨HC.out.1.congr (fun j _ => by simp [cntY]), HC.out.2⟩)
     clear HC
     go_wp2_with fail
     obtain ⟨wA, hwA⟩ : ∃ wA, wA = wr := ⟨_, rfl⟩
     rw [← hwA] at HC2 ⊢
     clear hwA
     go_loopw [59] (fun v59 wr => ∃ k : Nat, v59 = .int .i64 (k : Int) ∧ k ≤ i ∧ Hid (allT T k = true ∧ IsA wr nb 234 .i64 53 (fun s => ((cntY T.sy i s + cntY T.sy k s : Nat) : Int)) ∧ Keep noBlock w1 wr)) (fun v59 _ => i - (intOf v59).toNat)
     case atStart => exact ⟨0, rfl, Nat.zero_le _, rfl, HC2.out⟩
     case round =>
      clear HC2
      obtain ⟨k, rfl, hk, HC⟩ := hrel
      by_cases hlt : k < i
      ·have hiI : (k : Int) < (i : Int) := by omega
       obtain ⟨h0, h1, h2⟩ := HC.out
       have hTb := HC0.out.1.keep h2 (fun h => h)
       obtain ⟨d1, d2, d3⟩ := hTb.cells k (by rw [← HH.out.2.2.2.1]; exact hlt)
       have hsy := HH.out.2.2.1.sy k (by rw [← HH.out.2.2.2.1]; exact hlt)
       have hbi := HH.out.2.2.1.bi k (by rw [← HH.out.2.2.2.1]; exact hlt)
       have hba := HH.out.2.2.1.ba k (by rw [← HH.out.2.2.2.1]; exact hlt)
       rw [← HH.out.2.2.2.1] at hba
       have hba' : T.ba k ≤ i := Nat.le_trans (Nat.le_add_right _ _) hba
       have hcl := HH.out.1.ok.le
       have hxe : xT T k = cntY T.sy i (T.sy k) + cntY T.sy k (T.sy k) := by unfold xT; rw [← HH.out.2.2.2.1]
       have hxp : 1 ≤ cntY T.sy i (T.sy k) := cntY_pos T.sy hlt
       have hx1 := cntY_le T.sy (T.sy k) i
       have hx2 := cntY_le T.sy (T.sy k) k
       have hck : chkT T k = (decide ((T.bi k : Int) = (l : Int) - ((lenN (xT T k) : Int) - 1)) && decide ((T.ba k : Int) = ((xT T k * 2 ^ T.bi k : Nat) : Int) - (i : Int))) := by unfold chkT; rw [← HH.out.2.2.2.1, ← HH.out.2.2.2.2]
       obtain ⟨x, hx⟩ : ∃ x, x = xT T k := ⟨_, rfl⟩
       rw [← hx] at hxe hck
       have hA0 : IsA wr nb 234 .i64 53 (fun s => ((cntY T.sy i s + cntY T.sy k s : Nat) : Int)) := h1
       have hq2 := h1.cell (T.sy k) (by omega)
       rw [← hxe] at hq2
       obtain ⟨sy, hsye⟩ : ∃ sy, sy = T.sy k := ⟨_, rfl⟩
       obtain ⟨bi, hbie⟩ : ∃ bi, bi = T.bi k := ⟨_, rfl⟩
       obtain ⟨ba, hbae⟩ : ∃ ba, ba = T.ba k := ⟨_, rfl⟩
       rw [← hsye] at d1 hsy hxe hq2
       rw [← hbie] at d2 hbi hba hck
       rw [← hbae] at d3 hba hba' hck
       have hs53 : sy < 53 := by omega
       have htl := hTb.lt
       have hnl := h1.lt
       have hxb : x ≤ 1024 := by rw [hsye] at hxe; omega
       have hx0 : x ≠ 0 := by rw [hsye] at hxe; omega
       obtain ⟨hL1, hL2, hL3⟩ := lenN_pos x hx0
       have hL4 : lenN x ≤ 11 := by
        rcases Nat.lt_or_ge (lenN x) 12 with q | q
        ·omega
        ·exfalso
         have : 2 ^ 11 ≤ 2 ^ (lenN x - 1) := Nat.pow_le_pow_right (by omega) (by omega)
         omega
       have HLen := (show Hid (∀ W : World, Calls Tryz.prog 92 #[.int .u64 (x : Int)] W fun e w' => e = .returned (.int .i64 ((lenN x : Nat) : Int)) ∧ w' = W) from fun W => len_any x (by omega) W)
       obtain ⟨L, hL⟩ : ∃ L, L = lenN x := ⟨_, rfl⟩
       rw [← hL] at hL3 hL4 HLen hck
       obtain ⟨V, hV⟩ : ∃ V, V = wr.alloc (.cells #[.int .u8 (sy : Int), .int .u8 (bi : Int), .int .u16 (ba : Int)] 130) := ⟨_, rfl⟩
       have kV : Keep noBlock wr V := by rw [hV]; exact (Keep.refl _ wr).alloc _
       have oV : V.heap[wr.heap.size]? = some (.cells #[.int .u8 (sy : Int), .int .u8 (bi : Int), .int .u16 (ba : Int)] 130 (0, 0)) := by rw [hV]; exact alloc_new wr _
       have hA2 := hA0.keep kV (fun h => h)
       have q2 : V.cell? ⟨nb, sy, none⟩ = some (.int .i64 (x : Int)) := keep_cell0 kV hq2
       have f2 := hA2.frozen sy
       have hxI : (x : Int) + 1 = ((x + 1 : Nat) : Int) := by omega
       obtain ⟨x1, hx1e⟩ : ∃ x1, x1 = x + 1 := ⟨_, rfl⟩
       rw [← hx1e] at hxI
       have hx1b : (x1 : Int) ≤ 1025 := by omega
       obtain ⟨V2, hV2⟩ : ∃ V2, V2 = V.setCell ⟨nb, sy, none⟩ (.int .i64 (x1 : Int)) := ⟨_, rfl⟩
       have kV2 : Keep (fun j => j = nb) V V2 := by rw [hV2]; exact (Keep.refl (fun j => j = nb) V).setCell (p := ⟨nb, sy, none⟩) (fun _ => rfl) _
       have oV2 := kV2.obj oV (by omega)
       have r0 : V2.cell? ⟨wr.heap.size, 0, none⟩ = some (.int .u8 (sy : Int)) := cell_of oV2 0
       have r1 : V2.cell? ⟨wr.heap.size, 1, none⟩ = some (.int .u8 (bi : Int)) := cell_of oV2 1
       have r2 : V2.cell? ⟨wr.heap.size, 2, none⟩ = some (.int .u16 (ba : Int)) := cell_of oV2 2
       have HN := (show Hid (IsA V2 nb 234 .i64 53 (fun s => ((cntY T.sy i s + cntY T.sy (k + 1) s : Nat) : Int)) ∧ Keep noBlock w1 V2) from by
        refine ⟨?_, (h2.trans' kV).trans kV2 (fun j hj e => by omega)⟩
        rw [hV2]
        refine (hA2.set sy _).congr (fun j _ => ?_)
        simp only [cntY, ← hsye]
        by_cases e : j = sy
        ·rw [if_pos e, e, if_pos rfl, hx1e, hxe]; omega
        ·rw [if_neg e, if_neg (fun h => e h.symm), Nat.add_zero])
       obtain ⟨L1, hL1e⟩ : ∃ L1, L1 = L - 1 := ⟨_, rfl⟩
       have hL1I : (L : Int) - 1 = (L1 : Int) := by omega
       rw [hL1I] at hck
       have hs5I : (sy : Int) < 53 := by omega
       have hsy256 : (sy : Int) < 256 := by omega
       have hxu : IntKind.u64.wrap (x : Int) = (x : Int) := by rw [IntKind.wrap_u64]; omega
       have hwbi : IntKind.i64.wrap (bi : Int) = (bi : Int) := by rw [IntKind.wrap_i64]; omega
       have hwba : IntKind.i64.wrap (ba : Int) = (ba : Int) := by rw [IntKind.wrap_i64]; omega
       have hLI : (L : Int) ≤ 11 := by omega
       have hL1b : (L1 : Int) ≤ 11 := by omega
       have HV := hid hV
       have HV2 := hid hV2
       have HA0 := hid h0
       have HCK := hid hck
       have hba9 : ba < 65536 := by omega
       have hp2 : 2 ^ bi ≤ 512 := Nat.pow_le_pow_right (n := 2) (j := 9) (by omega) hbi
       by_cases hB : (bi : Int) = (l : Int) - (L1 : Int)
       ·have hBr : (l : Int) - (L1 : Int) = (bi : Int) := hB.symm
        obtain ⟨y, hy⟩ : ∃ y, y = x * 2 ^ bi := ⟨_, rfl⟩
        have hyI : (x : Int) * 2 ^ bi = (y : Int) := by rw [hy]; simp
        have hyb : y ≤ 524288 := by rw [hy]; exact Nat.le_trans (Nat.mul_le_mul hxb hp2) (by omega)
        have hybI : (y : Int) ≤ 524288 := by omega
        have hwy : IntKind.i64.wrap (y : Int) = (y : Int) := by rw [IntKind.wrap_i64]; omega
        rw [← hy] at hck
        have hbi9 : (bi : Int) ≤ 9 := by omega
        by_cases hD : (ba : Int) = (y : Int) - (i : Int)
        ·have hDr : (y : Int) - (i : Int) = (ba : Int) := hD.symm
         have HF := hid (show allT T (k + 1) = true from by unfold allT; rw [h0, hck, decide_eq_true hB, decide_eq_true hD]; rfl)
         clear h0 h1 h2 hTb hsye hbie hbae hA2 hA0 hx HC oV oV2 kV kV2 htl hnl hx1e hsy hcl hxb hxe hq2 hL hL1 hL2 hck hx1 hx2 hxp hV2 hba hL1e hp2 hB hD hy
         rw [hV] at q2 f2
         go_wp2_with fail
         rw [← HV.out, ← HV2.out]
         refine (HLen.out _).mono ?_
         rintro e w9 ⟨rfl, rfl⟩
         go_wp2_with fail
         go_region_held3 (fun W => W.cell? ⟨wr.heap.size, 1, none⟩ = some (.int .u8 (bi : Int)) ∧ W.cell? ⟨wr.heap.size, 2, none⟩ = some (.int .u16 (ba : Int))) (first | exact ⟨r1, r2⟩ | assumption) (fail)
         go_wp2_with fail
         go_roundw
         case rel => exact ⟨k + 1, by go_num, by omega, HF.out, HN.out.1.keep ((Keep.refl noBlock _).drew) (fun h => h), HN.out.2.drew⟩
         case measure => simp [intOf]; omega
        ·obtain ⟨D, hDe⟩ : ∃ D : Int, D = (y : Int) - (i : Int) := ⟨_, rfl⟩
         have hDr : (y : Int) - (i : Int) = D := hDe.symm
         have hDn : ((ba : Int) != D) = true := by rw [hDe]; simpa using hD
         have hDb1 : D ≤ 524288 := by omega
         have hDb2 : -513 ≤ D := by omega
         have hwD : IntKind.i64.wrap D = D := by rw [IntKind.wrap_i64]; omega
         have HF := hid (show isTabB T = false from by
          unfold isTabB
          rw [← HH.out.2.2.2.1, allT_no (k := k) (by rw [hck, decide_eq_false hD, Bool.and_false]) i hlt, Bool.and_false])
         clear h0 h1 h2 hTb hsye hbie hbae hA2 hA0 hx HC oV oV2 kV kV2 htl hnl hx1e hsy hcl hxb hxe hq2 hL hL1 hL2 hck hx1 hx2 hxp hV2 hba hL1e hp2 hB hD hy hDe
         rw [hV] at q2 f2
         go_wp2_with fail
         rw [← HV.out, ← HV2.out]
         refine (HLen.out _).mono ?_
         rintro e w9 ⟨rfl, rfl⟩
         go_wp2_with fail
         go_region_held3 (fun W => W.cell? ⟨wr.heap.size, 1, none⟩ = some (.int .u8 (bi : Int)) ∧ W.cell? ⟨wr.heap.size, 2, none⟩ = some (.int .u16 (ba : Int))) (first | exact ⟨r1, r2⟩ | assumption) (fail)
         go_wp2_with fail
         go_ret
         exact ⟨by rw [HF.out]; rfl, HN.out.2.drew⟩
       ·obtain ⟨B, hBe⟩ : ∃ B : Int, B = (l : Int) - (L1 : Int) := ⟨_, rfl⟩
        have hBr : (l : Int) - (L1 : Int) = B := hBe.symm
        have hBn : ((bi : Int) != B) = true := by rw [hBe]; simpa using hB
        have hBq : ((bi : Int) == B) = false := by rw [hBe]; simpa using hB
        have hBd : decide ((bi : Int) = B) = false := decide_eq_false (by rw [hBe]; exact hB)
        have hBb1 : B ≤ 9 := by omega
        have hBb2 : -12 ≤ B := by omega
        have hwB : IntKind.i64.wrap B = B := by rw [IntKind.wrap_i64]; omega
        have HF := hid (show isTabB T = false from by
         unfold isTabB
         rw [← HH.out.2.2.2.1, allT_no (k := k) (by rw [hck, decide_eq_false hB, Bool.false_and]) i hlt, Bool.and_false])
        clear h0 h1 h2 hTb hsye hbie hbae hA2 hA0 hx HC oV oV2 kV kV2 htl hnl hx1e hsy hcl hxb hxe hq2 hL hL1 hL2 hck hx1 hx2 hxp hV2 hba hL1e hp2 hB hBe
        rw [hV] at q2 f2
        go_wp2_with fail
        rw [← HV.out, ← HV2.out]
        refine (HLen.out _).mono ?_
        rintro e w9 ⟨rfl, rfl⟩
        go_wp2_with fail
        refine wp_region_held_drew (S := fun W => W.cell? ⟨wr.heap.size, 1, none⟩ = some (.int .u8 (bi : Int)) ∧ W.cell? ⟨wr.heap.size, 2, none⟩ = some (.int .u16 (ba : Int))) mx (⟨r1, r2⟩) (fun hS => ?_)
        refine wpAnyH_take (i := 0) (v := ?_) rfl (by kernel_rfl) (by kernel_rfl) (by kernel_rfl) (fun _ _ _ h => h) (Or.inl ⟨by rfl, ?_⟩) hS ?_
        rotate_left 1
        ·intro w hSw; (try dsimp only at hSw); (try obtain ⟨hSw1, hSw2⟩ := hSw); (go_simp <;> with_reducible rfl)
        simp only [Act.put, tA, tB, tD, tE, tF]
        refine wpAnyH_take (i := 1) (v := ?_) rfl (by kernel_rfl) (by kernel_rfl) (by kernel_rfl) (fun _ _ _ h => h) (Or.inl ⟨by rfl, ?_⟩) hS ?_
        rotate_left 1
        ·intro w hSw; (try dsimp only at hSw); (try obtain ⟨hSw1, hSw2⟩ := hSw); (go_simp <;> with_reducible rfl)
        simp only [Act.put, tA, tB, tC, tD, tE, tF]
        refine wpAnyH_take (i := 2) (v := ?_) rfl (by kernel_rfl) (by kernel_rfl) (by kernel_rfl) (fun _ _ _ h => h) (Or.inl ⟨by rfl, ?_⟩) hS ?_
        rotate_left 1
        ·intro w hSw; (try dsimp only at hSw); (try obtain ⟨hSw1, hSw2⟩ := hSw); (go_simp <;> with_reducible rfl)
        simp only [Act.put, tA, tB, tC, tD, tE, tF]
        refine wpAnyH_take (i := 3) (v := ?_) rfl (by kernel_rfl) (by kernel_rfl) (by kernel_rfl) (fun _ _ _ h => h) (Or.inl ⟨by rfl, ?_⟩) hS ?_
        rotate_left 1
        ·intro w hSw; (try dsimp only at hSw); (try obtain ⟨hSw1, hSw2⟩ := hSw); (go_simp <;> with_reducible rfl)
        simp only [Act.put, tA, tB, tC, tD, tE, tF]
        refine wpAnyH_take (i := 4) (v := ?_) rfl (by kernel_rfl) (by kernel_rfl) (by kernel_rfl) (fun _ _ _ h => h) (Or.inl ⟨by rfl, ?_⟩) hS ?_
        rotate_left 1
        ·intro w hSw; (try dsimp only at hSw); (try obtain ⟨hSw1, hSw2⟩ := hSw); (go_simp <;> with_reducible rfl)
        simp only [Act.put, tA, tB, tC, tD, tE, tF]
        refine wpAnyH_take (i := 5) (v := ?_) rfl (by kernel_rfl) (by kernel_rfl) (by kernel_rfl) (fun _ _ _ h => h) (Or.inl ⟨by rfl, ?_⟩) hS ?_
        rotate_left 1
        ·intro w hSw; (try dsimp only at hSw); (try obtain ⟨hSw1, hSw2⟩ := hSw); (go_simp <;> with_reducible rfl)
        simp only [Act.put, tA, tB, tC, tD, tE, tF]
        refine wpAnyH_take (i := 6) (v := undef) rfl (by kernel_rfl) (by kernel_rfl) (by kernel_rfl) (fun _ _ _ h => h) (Or.inr ⟨by rfl, rfl⟩) hS ?_
        simp only [Act.put, tA, tB, tC, tD, tE, tF]
        refine wpAnyH_take (i := 7) (v := undef) rfl (by kernel_rfl) (by kernel_rfl) (by kernel_rfl) (fun _ _ _ h => h) (Or.inr ⟨by rfl, rfl⟩) hS ?_
        simp only [Act.put, tA, tB, tC, tD, tE, tF]
        refine wpAnyH_take (i := 8) (v := undef) rfl (by kernel_rfl) (by kernel_rfl) (by kernel_rfl) (fun _ _ _ h => h) (Or.inr ⟨by rfl, rfl⟩) hS ?_
        simp only [Act.put, tA, tB, tC, tD, tE, tF]
        refine wpAnyH_take (i := 9) (v := undef) rfl (by kernel_rfl) (by kernel_rfl) (by kernel_rfl) (fun _ _ _ h => h) (Or.inr ⟨by rfl, rfl⟩) hS ?_
        simp only [Act.put, tA, tB, tC, tD, tE, tF]
        refine wpAnyH_take (i := 10) (v := undef) rfl (by kernel_rfl) (by kernel_rfl) (by kernel_rfl) (fun _ _ _ h => h) (Or.inr ⟨by rfl, rfl⟩) hS ?_
        simp only [Act.put, tA, tB, tC, tD, tE, tF]
        refine wpAnyH_take (i := 11) (v := undef) rfl (by kernel_rfl) (by kernel_rfl) (by kernel_rfl) (fun _ _ _ h => h) (Or.inr ⟨by rfl, rfl⟩) hS ?_
        simp only [Act.put, tA, tB, tC, tD, tE, tF]
        refine wpAnyH_take (i := 12) (v := undef) rfl (by kernel_rfl) (by kernel_rfl) (by kernel_rfl) (fun _ _ _ h => h) (Or.inr ⟨by rfl, rfl⟩) hS ?_
        simp only [Act.put, tA, tB, tC, tD, tE, tF]
        refine wpAnyH_take (i := 13) (v := undef) rfl (by kernel_rfl) (by kernel_rfl) (by kernel_rfl) (fun _ _ _ h => h) (Or.inr ⟨by rfl, rfl⟩) hS ?_
        simp only [Act.put, tA, tB, tC, tD, tE, tF]
        refine wpAnyH_take (i := 14) (v := undef) rfl (by kernel_rfl) (by kernel_rfl) (by kernel_rfl) (fun _ _ _ h => h) (Or.inr ⟨by rfl, rfl⟩) hS ?_
        simp only [Act.put, tA, tB, tC, tD, tE, tF]
        refine wpAnyH_take (i := 15) (v := undef) rfl (by kernel_rfl) (by kernel_rfl) (by kernel_rfl) (fun _ _ _ h => h) (Or.inr ⟨by rfl, rfl⟩) hS ?_
        simp only [Act.put, tA, tB, tC, tD, tE, tF]
        refine wpAnyH_take (i := 16) (v := ?_) rfl (by kernel_rfl) (by kernel_rfl) (by kernel_rfl) (fun _ _ _ h => h) (Or.inl ⟨by rfl, ?_⟩) hS ?_
        rotate_left 1
        ·intro w hSw; (try dsimp only at hSw); (try obtain ⟨hSw1, hSw2⟩ := hSw); (go_simp <;> with_reducible rfl)
        simp only [Act.put, tA, tB, tC, tD, tE, tF]
        refine wpAnyH_done (by kernel_rfl) ?_ _
        go_wp2_with fail
        go_ret
        exact ⟨by rw [HF.out]; rfl, HN.out.2.drew⟩
      ·obtain rfl : k = i := by omega
       have HF := hid (show isTabB T = true from by
        unfold isTabB
        rw [← HH.out.2.2.2.1, HC.out.1, ← HH.out.2.2.2.2]
        have : (decide (l = 0) || decide (5 ≤ l)) = true := by
         by_cases hz : l = 0
         ·rw [decide_eq_true hz]; rfl
         ·rw [decide_eq_true (show 5 ≤ l by omega), Bool.or_true]
        rw [this]; rfl)
       have HKk := hid HC.out.2.2
       clear HC
       go_wp2_with fail
       go_ret
       exact ⟨by rw [HF.out]; rfl, HKk.out⟩

  ·go_wp2_with fail
   generalize hW1 : w1.alloc (.cells #[.int .i64 0, .int .i64 0, .int .i64 0, .int .i64 0, .int .i64 0, .int .i64 0, .int .i64 0, .int .i64 0, .int .i64 0, .int .i64 0, .int .i64 0, .int .i64 0, .int .i64 0, .int .i64 0, .int .i64 0, .int .i64 0, .int .i64 0, .int .i64 0, .int .i64 0, .int .i64 0, .int .i64 0, .int .i64 0, .int .i64 0, .int .i64 0, .int .i64 0, .int .i64 0, .int .i64 0, .int .i64 0, .int .i64 0, .int .i64 0, .int .i64 0, .int .i64 0, .int .i64 0, .int .i64 0, .int .i64 0, .int .i64 0, .int .i64 0, .int .i64 0, .int .i64 0, .int .i64 0, .int .i64 0, .int .i64 0, .int .i64 0, .int .i64 0, .int .i64 0, .int .i64 0, .int .i64 0, .int .i64 0, .int .i64 0, .int .i64 0, .int .i64 0, .int .i64 0, .int .i64 0] 234) = W1 at HA ⊢
   go_loopw [38] (fun v38 wr => ∃ i : Nat, v38 = .int .i64 (i : Int) ∧ i ≤ S ∧ Hid (IsA wr nb 234 .i64 53 (fun s => ((cntY T.sy i s : Nat) : Int)) ∧ Keep noBlock w1 wr)) (fun v38 _ => S - (intOf v38).toNat)
   case atStart => exact ⟨0, rfl, Nat.zero_le _, HA.out.1.congr (fun i _ => rfl), HA.out.2⟩
   case round =>
    obtain ⟨i, rfl, hi, HC⟩ := hrel
    by_cases hlt : i < S
    ·have hiI : (i : Int) < (S : Int) := by omega
     obtain ⟨h1, h2⟩ := HC.out
     have hTb := HC0.out.1.keep h2 (fun h => h)
     have hCd := HC0.out.2.keep h2 (fun h => h) (fun h => h)
     obtain ⟨d1, d2, d3⟩ := hTb.cells i (by rw [← HH.out.2.2.2.1]; exact hlt)
     have hsy := HH.out.2.2.1.sy i (by rw [← HH.out.2.2.2.1]; exact hlt)
     have hcl := HH.out.1.ok.le
     have c0 := hCd.codes
     obtain ⟨sy, hsye⟩ : ∃ sy, sy = T.sy i := ⟨_, rfl⟩
     obtain ⟨bi, hbie⟩ : ∃ bi, bi = T.bi i := ⟨_, rfl⟩
     obtain ⟨ba, hbae⟩ : ∃ ba, ba = T.ba i := ⟨_, rfl⟩
     obtain ⟨m, hm⟩ : ∃ m, m = K.codes := ⟨_, rfl⟩
     rw [← hsye] at d1 hsy
     rw [← hbie] at d2
     rw [← hbae] at d3
     rw [← hm] at c0 hsy hcl
     have hb := hCd.lt
     have htl := hTb.lt
     have hnl := h1.lt
     obtain ⟨V, hV⟩ : ∃ V, V = wr.alloc (.cells #[.int .u8 (sy : Int), .int .u8 (bi : Int), .int .u16 (ba : Int)] 130) := ⟨_, rfl⟩
     have kV : Keep noBlock wr V := by rw [hV]; exact (Keep.refl _ wr).alloc _
     have oV : V.heap[wr.heap.size]? = some (.cells #[.int .u8 (sy : Int), .int .u8 (bi : Int), .int .u16 (ba : Int)] 130 (0, 0)) := by rw [hV]; exact alloc_new wr _
     have e0 : V.cell? ⟨wr.heap.size, 0, none⟩ = some (.int .u8 (sy : Int)) := cell_of oV 0
     have e1 : V.cell? ⟨b, o, none⟩ = some (.int .i64 (m : Int)) := keep_cell0 kV c0
     obtain ⟨V2, hV2⟩ : ∃ V2, V2 = V.drew := ⟨_, rfl⟩
     have kV2 : Keep noBlock wr V2 := by rw [hV2]; exact kV.drew
     have hA2 := h1.keep kV2 (fun h => h)
     have hs53 : sy < 53 := by omega
     have q0 : V2.cell? ⟨wr.heap.size, 0, none⟩ = some (.int .u8 (sy : Int)) := by rw [hV2]; exact e0
     have q2 := hA2.cell sy hs53
     have f2 := hA2.frozen sy
     obtain ⟨x, hx⟩ : ∃ x, x = cntY T.sy i sy := ⟨_, rfl⟩
     rw [← hx] at q2
     have hxb : x ≤ 512 := by have := cntY_le T.sy sy i; omega
     have HN := (show Hid (IsA (V2.setCell ⟨nb, sy, none⟩ (.int .i64 ((x + 1 : Nat) : Int))) nb 234 .i64 53 (fun s => ((cntY T.sy (i + 1) s : Nat) : Int)) ∧ Keep noBlock w1 (V2.setCell ⟨nb, sy, none⟩ (.int .i64 ((x + 1 : Nat) : Int)))) from by
      refine ⟨(hA2.set sy _).congr (fun j _ => ?_), (h2.trans' kV2).trans ((Keep.refl (fun k => k = nb) V2).setCell (p := ⟨nb, sy, none⟩) (fun _ => rfl) _) (fun j hj e => by omega)⟩
      simp only [cntY, ← hsye]
      by_cases e : j = sy
      ·rw [if_pos e, e, if_pos rfl, hx]
      ·rw [if_neg e, if_neg (fun h => e h.symm), Nat.add_zero])
     have hxI : (x : Int) + 1 = ((x + 1 : Nat) : Int) := by omega
     obtain ⟨x1, hx1⟩ : ∃ x1, x1 = x + 1 := ⟨_, rfl⟩
     rw [← hx1] at hxI HN
     have hx1b : (x1 : Int) ≤ 513 := by omega
     have hwsy : IntKind.i64.wrap (sy : Int) = (sy : Int) := by rw [IntKind.wrap_i64]; omega
     have hsyN : ¬ m ≤ sy := by omega
     have hsyI : ¬ (m : Int) ≤ (sy : Int) := by omega
     have hsyD : decide (m ≤ sy) = false := decide_eq_false hsyN
     have hs5I : (sy : Int) < 53 := by omega
     have hsy256 : (sy : Int) < 256 := by omega
     have HV2 := hid hV2
     have HV := hid hV
     clear h1 h2 hTb hCd hsye hbie hbae hm hA2 hx HC oV kV kV2 hb htl hnl hx1 hsy hcl hxb c0 hV2
     rw [hV] at e0 e1
     go_wp2_with fail
     go_region_held3 (fun W => W.cell? ⟨wr.heap.size, 0, none⟩ = some (.int .u8 (sy : Int)) ∧ W.cell? ⟨b, o, none⟩ = some (.int .i64 (m : Int))) (first | exact ⟨e0, e1⟩ | assumption) (fail)
     rw [← HV.out, ← HV2.out]
     clear e0 e1 HV HV2 hV
     go_wp2_with fail
     go_roundw
     case rel => exact ⟨i + 1, by go_num, by omega, HN.out⟩
     case measure => simp [intOf]; omega
    ·obtain rfl : i = S := by omega
     clear HA
     have HC2 := (show Hid (IsA wr nb 234 .i64 53 (fun s => ((cntY T.sy i s + cntY T.sy 0 s : Nat) : Int)) ∧ Keep noBlock w1 wr) from ⟨HC.out.1.congr (fun j _ => by simp [cntY]), HC.out.2⟩)
     clear HC
     go_wp2_with fail
     obtain ⟨wA, hwA⟩ : ∃ wA, wA = wr := ⟨_, rfl⟩
     rw [← hwA] at HC2 ⊢
     clear hwA
     go_loopw [59] (fun v59 wr => ∃ k : Nat, v59 = .int .i64 (k : Int) ∧ k ≤ i ∧ Hid (allT T k = true ∧ IsA wr nb 234 .i64 53 (fun s => ((cntY T.sy i s + cntY T.sy k s : Nat) : Int)) ∧ Keep noBlock w1 wr)) (fun v59 _ => i - (intOf v59).toNat)
     case atStart => exact ⟨0, rfl, Nat.zero_le _, rfl, HC2.out⟩
     case round =>
      clear HC2
      obtain ⟨k, rfl, hk, HC⟩ := hrel
      by_cases hlt : k < i
      ·have hiI : (k : Int) < (i : Int) := by omega
       obtain ⟨h0, h1, h2⟩ := HC.out
       have hTb := HC0.out.1.keep h2 (fun h => h)
       obtain ⟨d1, d2, d3⟩ := hTb.cells k (by rw [← HH.out.2.2.2.1]; exact hlt)
       have hsy := HH.out.2.2.1.sy k (by rw [← HH.out.2.2.2.1]; exact hlt)
       have hbi := HH.out.2.2.1.bi k (by rw [← HH.out.2.2.2.1]; exact hlt)
       have hba := HH.out.2.2.1.ba k (by rw [← HH.out.2.2.2.1]; exact hlt)
       rw [← HH.out.2.2.2.1] at hba
       have hba' : T.ba k ≤ i := Nat.le_trans (Nat.le_add_right _ _) hba
       have hcl := HH.out.1.ok.le
       have hxe : xT T k = cntY T.sy i (T.sy k) + cntY T.sy k (T.sy k) := by unfold xT; rw [← HH.out.2.2.2.1]
       have hxp : 1 ≤ cntY T.sy i (T.sy k) := cntY_pos T.sy hlt
       have hx1 := cntY_le T.sy (T.sy k) i
       have hx2 := cntY_le T.sy (T.sy k) k
       have hck : chkT T k = (decide ((T.bi k : Int) = (l : Int) - ((lenN (xT T k) : Int) - 1)) && decide ((T.ba k : Int) = ((xT T k * 2 ^ T.bi k : Nat) : Int) - (i : Int))) := by unfold chkT; rw [← HH.out.2.2.2.1, ← HH.out.2.2.2.2]
       obtain ⟨x, hx⟩ : ∃ x, x = xT T k := ⟨_, rfl⟩
       rw [← hx] at hxe hck
       have hA0 : IsA wr nb 234 .i64 53 (fun s => ((cntY T.sy i s + cntY T.sy k s : Nat) : Int)) := h1
       have hq2 := h1.cell (T.sy k) (by omega)
       rw [← hxe] at hq2
       obtain ⟨sy, hsye⟩ : ∃ sy, sy = T.sy k := ⟨_, rfl⟩
       obtain ⟨bi, hbie⟩ : ∃ bi, bi = T.bi k := ⟨_, rfl⟩
       obtain ⟨ba, hbae⟩ : ∃ ba, ba = T.ba k := ⟨_, rfl⟩
       rw [← hsye] at d1 hsy hxe hq2
       rw [← hbie] at d2 hbi hba hck
       rw [← hbae] at d3 hba hba' hck
       have hs53 : sy < 53 := by omega
       have htl := hTb.lt
       have hnl := h1.lt
       have hxb : x ≤ 1024 := by rw [hsye] at hxe; omega
       have hx0 : x ≠ 0 := by rw [hsye] at hxe; omega
       obtain ⟨hL1, hL2, hL3⟩ := lenN_pos x hx0
       have hL4 : lenN x ≤ 11 := by
        rcases Nat.lt_or_ge (lenN x) 12 with q | q
        ·omega
        ·exfalso
         have : 2 ^ 11 ≤ 2 ^ (lenN x - 1) := Nat.pow_le_pow_right (by omega) (by omega)
         omega
       have HLen := (show Hid (∀ W : World, Calls Tryz.prog 92 #[.int .u64 (x : Int)] W fun e w' => e = .returned (.int .i64 ((lenN x : Nat) : Int)) ∧ w' = W) from fun W => len_any x (by omega) W)
       obtain ⟨L, hL⟩ : ∃ L, L = lenN x := ⟨_, rfl⟩
       rw [← hL] at hL3 hL4 HLen hck
       obtain ⟨V, hV⟩ : ∃ V, V = wr.alloc (.cells #[.int .u8 (sy : Int), .int .u8 (bi : Int), .int .u16 (ba : Int)] 130) := ⟨_, rfl⟩
       have kV : Keep noBlock wr V := by rw [hV]; exact (Keep.refl _ wr).alloc _
       have oV : V.heap[wr.heap.size]? = some (.cells #[.int .u8 (sy : Int), .int .u8 (bi : Int), .int .u16 (ba : Int)] 130 (0, 0)) := by rw [hV]; exact alloc_new wr _
       have hA2 := hA0.keep kV (fun h => h)
       have q2 : V.cell? ⟨nb, sy, none⟩ = some (.int .i64 (x : Int)) := keep_cell0 kV hq2
       have f2 := hA2.frozen sy
       have hxI : (x : Int) + 1 = ((x + 1 : Nat) : Int) := by omega
       obtain ⟨x1, hx1e⟩ : ∃ x1, x1 = x + 1 := ⟨_, rfl⟩
       rw [← hx1e] at hxI
       have hx1b : (x1 : Int) ≤ 1025 := by omega
       obtain ⟨V2, hV2⟩ : ∃ V2, V2 = V.setCell ⟨nb, sy, none⟩ (.int .i64 (x1 : Int)) := ⟨_, rfl⟩
       have kV2 : Keep (fun j => j = nb) V V2 := by rw [hV2]; exact (Keep.refl (fun j => j = nb) V).setCell (p := ⟨nb, sy, none⟩) (fun _ => rfl) _
       have oV2 := kV2.obj oV (by omega)
       have r0 : V2.cell? ⟨wr.heap.size, 0, none⟩ = some (.int .u8 (sy : Int)) := cell_of oV2 0
       have r1 : V2.cell? ⟨wr.heap.size, 1, none⟩ = some (.int .u8 (bi : Int)) := cell_of oV2 1
       have r2 : V2.cell? ⟨wr.heap.size, 2, none⟩ = some (.int .u16 (ba : Int)) := cell_of oV2 2
       have HN := (show Hid (IsA V2 nb 234 .i64 53 (fun s => ((cntY T.sy i s + cntY T.sy (k + 1) s : Nat) : Int)) ∧ Keep noBlock w1 V2) from by
        refine ⟨?_, (h2.trans' kV).trans kV2 (fun j hj e => by omega)⟩
        rw [hV2]
        refine (hA2.set sy _).congr (fun j _ => ?_)
        simp only [cntY, ← hsye]
        by_cases e : j = sy
        ·rw [if_pos e, e, if_pos rfl, hx1e, hxe]; omega
        ·rw [if_neg e, if_neg (fun h => e h.symm), Nat.add_zero])
       obtain ⟨L1, hL1e⟩ : ∃ L1, L1 = L - 1 := ⟨_, rfl⟩
       have hL1I : (L : Int) - 1 = (L1 : Int) := by omega
       rw [hL1I] at hck
       have hs5I : (sy : Int) < 53 := by omega
       have hsy256 : (sy : Int) < 256 := by omega
       have hxu : IntKind.u64.wrap (x : Int) = (x : Int) := by rw [IntKind.wrap_u64]; omega
       have hwbi : IntKind.i64.wrap (bi : Int) = (bi : Int) := by rw [IntKind.wrap_i64]; omega
       have hwba : IntKind.i64.wrap (ba : Int) = (ba : Int) := by rw [IntKind.wrap_i64]; omega
       have hLI : (L : Int) ≤ 11 := by omega
       have hL1b : (L1 : Int) ≤ 11 := by omega
       have HV := hid hV
       have HV2 := hid hV2
       have HA0 := hid h0
       have HCK := hid hck
       have hba9 : ba < 65536 := by omega
       have hp2 : 2 ^ bi ≤ 512 := Nat.pow_le_pow_right (n := 2) (j := 9) (by omega) hbi
       by_cases hB : (bi : Int) = (l : Int) - (L1 : Int)
       ·have hBr : (l : Int) - (L1 : Int) = (bi : Int) := hB.symm
        obtain ⟨y, hy⟩ : ∃ y, y = x * 2 ^ bi := ⟨_, rfl⟩
        have hyI : (x : Int) * 2 ^ bi = (y : Int) := by rw [hy]; simp
        have hyb : y ≤ 524288 := by rw [hy]; exact Nat.le_trans (Nat.mul_le_mul hxb hp2) (by omega)
        have hybI : (y : Int) ≤ 524288 := by omega
        have hwy : IntKind.i64.wrap (y : Int) = (y : Int) := by rw [IntKind.wrap_i64]; omega
        rw [← hy] at hck
        have hbi9 : (bi : Int) ≤ 9 := by omega
        by_cases hD : (ba : Int) = (y : Int) - (i : Int)
        ·have hDr : (y : Int) - (i : Int) = (ba : Int) := hD.symm
         have HF := hid (show allT T (k + 1) = true from by unfold allT; rw [h0, hck, decide_eq_true hB, decide_eq_true hD]; rfl)
         clear h0 h1 h2 hTb hsye hbie hbae hA2 hA0 hx HC oV oV2 kV kV2 htl hnl hx1e hsy hcl hxb hxe hq2 hL hL1 hL2 hck hx1 hx2 hxp hV2 hba hL1e hp2 hB hD hy
         rw [hV] at q2 f2
         go_wp2_with fail
         rw [← HV.out, ← HV2.out]
         refine (HLen.out _).mono ?_
         rintro e w9 ⟨rfl, rfl⟩
         go_wp2_with fail
         go_region_held3 (fun W => W.cell? ⟨wr.heap.size, 1, none⟩ = some (.int .u8 (bi : Int)) ∧ W.cell? ⟨wr.heap.size, 2, none⟩ = some (.int .u16 (ba : Int))) (first | exact ⟨r1, r2⟩ | assumption) (fail)
         go_wp2_with fail
         go_roundw
         case rel => exact ⟨k + 1, by go_num, by omega, HF.out, HN.out.1.keep ((Keep.refl noBlock _).drew) (fun h => h), HN.out.2.drew⟩
         case measure => simp [intOf]; omega
        ·obtain ⟨D, hDe⟩ : ∃ D : Int, D = (y : Int) - (i : Int) := ⟨_, rfl⟩
         have hDr : (y : Int) - (i : Int) = D := hDe.symm
         have hDn : ((ba : Int) != D) = true := by rw [hDe]; simpa using hD
         have hDb1 : D ≤ 524288 := by omega
         have hDb2 : -513 ≤ D := by omega
         have hwD : IntKind.i64.wrap D = D := by rw [IntKind.wrap_i64]; omega
         have HF := hid (show isTabB T = false from by
          unfold isTabB
          rw [← HH.out.2.2.2.1, allT_no (k := k) (by rw [hck, decide_eq_false hD, Bool.and_false]) i hlt, Bool.and_false])
         clear h0 h1 h2 hTb hsye hbie hbae hA2 hA0 hx HC oV oV2 kV kV2 htl hnl hx1e hsy hcl hxb hxe hq2 hL hL1 hL2 hck hx1 hx2 hxp hV2 hba hL1e hp2 hB hD hy hDe
         rw [hV] at q2 f2
         go_wp2_with fail
         rw [← HV.out, ← HV2.out]
         refine (HLen.out _).mono ?_
         rintro e w9 ⟨rfl, rfl⟩
         go_wp2_with fail
         go_region_held3 (fun W => W.cell? ⟨wr.heap.size, 1, none⟩ = some (.int .u8 (bi : Int)) ∧ W.cell? ⟨wr.heap.size, 2, none⟩ = some (.int .u16 (ba : Int))) (first | exact ⟨r1, r2⟩ | assumption) (fail)
         go_wp2_with fail
         go_ret
         exact ⟨by rw [HF.out]; rfl, HN.out.2.drew⟩
       ·obtain ⟨B, hBe⟩ : ∃ B : Int, B = (l : Int) - (L1 : Int) := ⟨_, rfl⟩
        have hBr : (l : Int) - (L1 : Int) = B := hBe.symm
        have hBn : ((bi : Int) != B) = true := by rw [hBe]; simpa using hB
        have hBq : ((bi : Int) == B) = false := by rw [hBe]; simpa using hB
        have hBd : decide ((bi : Int) = B) = false := decide_eq_false (by rw [hBe]; exact hB)
        have hBb1 : B ≤ 9 := by omega
        have hBb2 : -12 ≤ B := by omega
        have hwB : IntKind.i64.wrap B = B := by rw [IntKind.wrap_i64]; omega
        have HF := hid (show isTabB T = false from by
         unfold isTabB
         rw [← HH.out.2.2.2.1, allT_no (k := k) (by rw [hck, decide_eq_false hB, Bool.false_and]) i hlt, Bool.and_false])
        clear h0 h1 h2 hTb hsye hbie hbae hA2 hA0 hx HC oV oV2 kV kV2 htl hnl hx1e hsy hcl hxb hxe hq2 hL hL1 hL2 hck hx1 hx2 hxp hV2 hba hL1e hp2 hB hBe
        rw [hV] at q2 f2
        go_wp2_with fail
        rw [← HV.out, ← HV2.out]
        refine (HLen.out _).mono ?_
        rintro e w9 ⟨rfl, rfl⟩
        go_wp2_with fail
        refine wp_region_held_drew (S := fun W => W.cell? ⟨wr.heap.size, 1, none⟩ = some (.int .u8 (bi : Int)) ∧ W.cell? ⟨wr.heap.size, 2, none⟩ = some (.int .u16 (ba : Int))) mx (⟨r1, r2⟩) (fun hS => ?_)
        refine wpAnyH_take (i := 0) (v := ?_) rfl (by kernel_rfl) (by kernel_rfl) (by kernel_rfl) (fun _ _ _ h => h) (Or.inl ⟨by rfl, ?_⟩) hS ?_
        rotate_left 1
        ·intro w hSw; (try dsimp only at hSw); (try obtain ⟨hSw1, hSw2⟩ := hSw); (go_simp <;> with_reducible rfl)
        simp only [Act.put, tA, tB, tD, tE, tF]
        refine wpAnyH_take (i := 1) (v := ?_) rfl (by kernel_rfl) (by kernel_rfl) (by kernel_rfl) (fun _ _ _ h => h) (Or.inl ⟨by rfl, ?_⟩) hS ?_
        rotate_left 1
        ·intro w hSw; (try dsimp only at hSw); (try obtain ⟨hSw1, hSw2⟩ := hSw); (go_simp <;> with_reducible rfl)
        simp only [Act.put, tA, tB, tC, tD, tE, tF]
        refine wpAnyH_take (i := 2) (v := ?_) rfl (by kernel_rfl) (by kernel_rfl) (by kernel_rfl) (fun _ _ _ h => h) (Or.inl ⟨by rfl, ?_⟩) hS ?_
        rotate_left 1
        ·intro w hSw; (try dsimp only at hSw); (try obtain ⟨hSw1, hSw2⟩ := hSw); (go_simp <;> with_reducible rfl)
        simp only [Act.put, tA, tB, tC, tD, tE, tF]
        refine wpAnyH_take (i := 3) (v := ?_) rfl (by kernel_rfl) (by kernel_rfl) (by kernel_rfl) (fun _ _ _ h => h) (Or.inl ⟨by rfl, ?_⟩) hS ?_
        rotate_left 1
        ·intro w hSw; (try dsimp only at hSw); (try obtain ⟨hSw1, hSw2⟩ := hSw); (go_simp <;> with_reducible rfl)
        simp only [Act.put, tA, tB, tC, tD, tE, tF]
        refine wpAnyH_take (i := 4) (v := ?_) rfl (by kernel_rfl) (by kernel_rfl) (by kernel_rfl) (fun _ _ _ h => h) (Or.inl ⟨by rfl, ?_⟩) hS ?_
        rotate_left 1
        ·intro w hSw; (try dsimp only at hSw); (try obtain ⟨hSw1, hSw2⟩ := hSw); (go_simp <;> with_reducible rfl)
        simp only [Act.put, tA, tB, tC, tD, tE, tF]
        refine wpAnyH_take (i := 5) (v := ?_) rfl (by kernel_rfl) (by kernel_rfl) (by kernel_rfl) (fun _ _ _ h => h) (Or.inl ⟨by rfl, ?_⟩) hS ?_
        rotate_left 1
        ·intro w hSw; (try dsimp only at hSw); (try obtain ⟨hSw1, hSw2⟩ := hSw); (go_simp <;> with_reducible rfl)
        simp only [Act.put, tA, tB, tC, tD, tE, tF]
        refine wpAnyH_take (i := 6) (v := undef) rfl (by kernel_rfl) (by kernel_rfl) (by kernel_rfl) (fun _ _ _ h => h) (Or.inr ⟨by rfl, rfl⟩) hS ?_
        simp only [Act.put, tA, tB, tC, tD, tE, tF]
        refine wpAnyH_take (i := 7) (v := undef) rfl (by kernel_rfl) (by kernel_rfl) (by kernel_rfl) (fun _ _ _ h => h) (Or.inr ⟨by rfl, rfl⟩) hS ?_
        simp only [Act.put, tA, tB, tC, tD, tE, tF]
        refine wpAnyH_take (i := 8) (v := undef) rfl (by kernel_rfl) (by kernel_rfl) (by kernel_rfl) (fun _ _ _ h => h) (Or.inr ⟨by rfl, rfl⟩) hS ?_
        simp only [Act.put, tA, tB, tC, tD, tE, tF]
        refine wpAnyH_take (i := 9) (v := undef) rfl (by kernel_rfl) (by kernel_rfl) (by kernel_rfl) (fun _ _ _ h => h) (Or.inr ⟨by rfl, rfl⟩) hS ?_
        simp only [Act.put, tA, tB, tC, tD, tE, tF]
        refine wpAnyH_take (i := 10) (v := undef) rfl (by kernel_rfl) (by kernel_rfl) (by kernel_rfl) (fun _ _ _ h => h) (Or.inr ⟨by rfl, rfl⟩) hS ?_
        simp only [Act.put, tA, tB, tC, tD, tE, tF]
        refine wpAnyH_take (i := 11) (v := undef) rfl (by kernel_rfl) (by kernel_rfl) (by kernel_rfl) (fun _ _ _ h => h) (Or.inr ⟨by rfl, rfl⟩) hS ?_
        simp only [Act.put, tA, tB, tC, tD, tE, tF]
        refine wpAnyH_take (i := 12) (v := undef) rfl (by kernel_rfl) (by kernel_rfl) (by kernel_rfl) (fun _ _ _ h => h) (Or.inr ⟨by rfl, rfl⟩) hS ?_
        simp only [Act.put, tA, tB, tC, tD, tE, tF]
        refine wpAnyH_take (i := 13) (v := undef) rfl (by kernel_rfl) (by kernel_rfl) (by kernel_rfl) (fun _ _ _ h => h) (Or.inr ⟨by rfl, rfl⟩) hS ?_
        simp only [Act.put, tA, tB, tC, tD, tE, tF]
        refine wpAnyH_take (i := 14) (v := undef) rfl (by kernel_rfl) (by kernel_rfl) (by kernel_rfl) (fun _ _ _ h => h) (Or.inr ⟨by rfl, rfl⟩) hS ?_
        simp only [Act.put, tA, tB, tC, tD, tE, tF]
        refine wpAnyH_take (i := 15) (v := undef) rfl (by kernel_rfl) (by kernel_rfl) (by kernel_rfl) (fun _ _ _ h => h) (Or.inr ⟨by rfl, rfl⟩) hS ?_
        simp only [Act.put, tA, tB, tC, tD, tE, tF]
        refine wpAnyH_take (i := 16) (v := ?_) rfl (by kernel_rfl) (by kernel_rfl) (by kernel_rfl) (fun _ _ _ h => h) (Or.inl ⟨by rfl, ?_⟩) hS ?_
        rotate_left 1
        ·intro w hSw; (try dsimp only at hSw); (try obtain ⟨hSw1, hSw2⟩ := hSw); (go_simp <;> with_reducible rfl)
        simp only [Act.put, tA, tB, tC, tD, tE, tF]
        refine wpAnyH_done (by kernel_rfl) ?_ _
        go_wp2_with fail
        go_ret
        exact ⟨by rw [HF.out]; rfl, HN.out.2.drew⟩
      ·obtain rfl : k = i := by omega
       have HF := hid (show isTabB T = true from by
        unfold isTabB
        rw [← HH.out.2.2.2.1, HC.out.1, ← HH.out.2.2.2.2]
        have : (decide (l = 0) || decide (5 ≤ l)) = true := by
         by_cases hz : l = 0
         ·rw [decide_eq_true hz]; rfl
         ·rw [decide_eq_true (show 5 ≤ l by omega), Bool.or_true]
        rw [this]; rfl)
       have HKk := hid HC.out.2.2
       clear HC
       go_wp2_with fail
       go_ret
       exact ⟨by rw [HF.out]; rfl, HKk.out⟩

end Go.Proofs.YtnjilcokkhodmaaGreatDoor

namespace Go.Proofs.YtnjilcokkhodmaaGreatDoor
open Go.RowKit Go.Shelf
set_option linter.unusedVariables false

abbrev Stp := Int × Int × Int
/-- A slice of steps: Lits, Match, Back. -/
structure Seqs (w : World) (a : Option Addr) (cap g off : Nat) (l : List Stp) : Prop where
 at_ : a = some ⟨g, off, none⟩ ∨ l = []
 cells : ∀ j, j < l.length → w.cell? ⟨g, off + j * 3, none⟩ = some (.int .i64 (l[j]?.getD (0, 0, 0)).1) ∧ w.cell? ⟨g, off + j * 3 + 1, none⟩ = some (.int .i64 (l[j]?.getD (0, 0, 0)).2.1) ∧ w.cell? ⟨g, off + j * 3 + 2, none⟩ = some (.int .i64 (l[j]?.getD (0, 0, 0)).2.2)

end Go.Proofs.YtnjilcokkhodmaaGreatDoor

namespace Go.Proofs.YtnjilcokkhodmaaGreatDoor
open Go.RowKit Go.Shelf
set_option linter.unusedVariables false

theorem Cods.at_ {w : World} {b g0 g1 g2 : Nat} (h : Cods w b g0 g1 g2) (v : Nat) (hv : v < 3) : ∃ gk, Coding w b (v * 110) gk (kdV v) := by
 rcases (show v = 0 ∨ v = 1 ∨ v = 2 by omega) with rfl | rfl | rfl
 ·exact ⟨g0, h.cl⟩
 ·exact ⟨g1, h.cb⟩
 ·exact ⟨g2, h.cm⟩
end Go.Proofs.YtnjilcokkhodmaaGreatDoor

namespace Go.Proofs.YtnjilcokkhodmaaGreatDoor
open Go.RowKit Go.Shelf
set_option linter.unusedVariables false

theorem setAll_lt : ∀ (vs : List Value) (o : Nat) (cs : Array Value) (i : Nat), i < o → (setAll cs o vs)[i]? = cs[i]?
  | [], _, _, _, _ => rfl
  | v :: vs, o, cs, i, h => by
    rw [setAll, setAll_lt vs (o + 1) _ i (by omega), Array.getElem?_setIfInBounds_ne (by omega)]
theorem setAll_at : ∀ (vs : List Value) (o : Nat) (cs : Array Value) (j : Nat), j < vs.length → o + vs.length ≤ cs.size → (setAll cs o vs)[o + j]? = vs[j]?
  | [], _, _, j, h, _ => by simp at h
  | v :: vs, o, cs, 0, h, h2 => by
    rw [setAll, show o + 0 = o from rfl, setAll_lt vs (o + 1) _ o (by omega)]
    simp at h2
    rw [Array.getElem?_setIfInBounds_self_of_lt (by omega)]
    rfl
  | v :: vs, o, cs, j + 1, h, h2 => by
    simp at h h2
    rw [setAll, show o + (j + 1) = o + 1 + j from by omega, setAll_at vs (o + 1) _ j (by omega) (by rw [Array.size_setIfInBounds]; omega)]
    rfl
def updN {A : Type} (f : Nat → A) (i : Nat) (x : A) : Nat → A := fun v => if v = i then x else f v
theorem updN_lt {A : Type} (f : Nat → A) (i : Nat) (x : A) (v : Nat) (h : v < i) : updN f i x v = f v := if_neg (by omega)
theorem updN_self {A : Type} (f : Nat → A) (i : Nat) (x : A) : updN f i x i = x := if_pos rfl
end Go.Proofs.YtnjilcokkhodmaaGreatDoor

namespace Go.Proofs.YtnjilcokkhodmaaGreatDoor
open Go.RowKit Go.Shelf
set_option linter.unusedVariables false

/-- A unit: its part, its bytes, whether it is whole. -/
structure Un where
 p : Nat
 bs : List Nat
 wh : Bool
def skipB (n : Nat) : Bool := decide (407710288 ≤ n) && decide (n ≤ 407710303)
def flagB (d k : Nat) : Bool := d / 2 ^ k % 2 == 1
def winLen (d : Nat) : Nat := if flagB d 5 then 0 else 1
def dicLen (d : Nat) : Nat := if d % 4 = 3 then 4 else d % 4
def sizLen (d : Nat) : Nat := if d / 64 % 4 = 0 then (if flagB d 5 then 1 else 0) else if d / 64 % 4 = 1 then 2 else if d / 64 % 4 = 2 then 4 else 8
def hdLen (d : Nat) : Nat := winLen d + dicLen d + sizLen d
def blLast (n : Nat) : Bool := n % 2 == 1
def blKind (n : Nat) : Nat := n / 2 % 4
def blSize (n : Nat) : Nat := n / 8
def blBeh (n : Nat) : Nat := if blKind n = 1 then 1 else blSize n
def cutU (p size : Nat) (rest : List Nat) (k : List Nat → List Nat → List Un) : List Un :=
 if rest.length < size then [⟨p, [], false⟩] else ⟨p, rest.take size, true⟩ :: k (rest.take size) (rest.drop size)
def sumU (s : Bool) (rest : List Nat) : List Un := if s then cutU 7 4 rest (fun _ _ => []) else []
def blocksU (s : Bool) : Nat → List Nat → List Un
 | 0, _ => []
 | f + 1, rest => cutU 5 3 rest fun b r => cutU 6 (blBeh (numN b)) r fun _ r2 => if blLast (numN b) then sumU s r2 else blocksU s f r2
def frameU (rest : List Nat) : List Un :=
 cutU 3 1 rest fun b r => cutU 4 (hdLen (b[0]?.getD 0)) r fun _ r2 => blocksU (flagB (b[0]?.getD 0) 2) (r2.length + 1) r2
def skipU (rest : List Nat) : List Un := cutU 1 4 rest fun b r => cutU 2 (numN b) r fun _ _ => []
def unitsU (b : List Nat) : List Un :=
 cutU 0 4 b fun f r => if skipB (numN f) then skipU r else if numN f = 4247762216 then frameU r else []

abbrev Sp := Nat × Nat × Nat
/-- What the layers below tell. -/
structure Orc where
 lit : List Nat → List Nat → Nat → Option (List Nat × List Nat × Nat)
 seq : List Nat → Option Tb → Option Tb → Option Tb → Option (List Sp × Option Tb × Option Tb × Option Tb)
 xxh : List Nat → Nat
/-- A frame. -/
structure Fr where
 win : Nat
 dic : Nat
 siz : Nat
 told : Bool
 t0 : Option Tb
 t1 : Option Tb
 t2 : Option Tb
 ws : List Nat
 r0 : Int
 r1 : Int
 r2 : Int
 fl : Nat
 last : Bool
 kind : Nat
 bsz : Nat
 out : List Nat
 bud : Nat
def newF (bud : Nat) : Fr := ⟨0, 0, 0, false, none, none, none, [], 1, 4, 8, 0, false, 0, 0, [], bud⟩
def mostF (f : Fr) : Nat := min f.win 131072
def winOf (w : Nat) : Nat := 2 ^ (10 + w / 8) + 2 ^ (10 + w / 8) / 8 * (w % 8)
def hdDic (d : Nat) (b : List Nat) : Nat := numN ((b.drop (winLen d)).take (dicLen d))
def hdSiz (d : Nat) (b : List Nat) : Nat := numN ((b.drop (winLen d)).drop (dicLen d)) + (if ((b.drop (winLen d)).drop (dicLen d)).length = 2 then 256 else 0)
def hdTold (d : Nat) (b : List Nat) : Bool := decide (0 < ((b.drop (winLen d)).drop (dicLen d)).length)
def hdWin (d : Nat) (b : List Nat) : Nat := if flagB d 5 then max (hdSiz d b) 1 else winOf (b[0]?.getD 0)
def lookP (O : Orc) (f : Fr) (u : Un) : Fr × Nat :=
 if u.wh = false then (f, 10)
 else if u.p = 0 then (f, if numN u.bs = 4247762216 ∨ skipB (numN u.bs) = true then 0 else 11)
 else if u.p = 3 then ({ f with fl := u.bs[0]?.getD 0 }, if flagB (u.bs[0]?.getD 0) 3 then 11 else 0)
 else if u.p = 4 then ({ f with win := hdWin f.fl u.bs, dic := hdDic f.fl u.bs, siz := hdSiz f.fl u.bs, told := hdTold f.fl u.bs }, if hdDic f.fl u.bs ≠ 0 then 12 else if f.bud < hdWin f.fl u.bs then 40 else 0)
 else if u.p = 5 then ({ f with last := blLast (numN u.bs), kind := blKind (numN u.bs), bsz := blSize (numN u.bs) }, if blKind (numN u.bs) ≠ 3 ∧ blSize (numN u.bs) ≤ mostF f then 0 else 11)
 else if u.p = 7 then (f, if numN u.bs % 4294967296 = O.xxh f.out % 4294967296 then 0 else 11)
 else (f, 0)
def cpyP : Nat → List Nat → Nat → Nat → List Nat
 | 0, out, _, _ => out
 | k + 1, out, fr, left => if left = 0 then out else cpyP k (out ++ (out.drop fr).take (min left (out.length - fr))) fr (left - min left (out.length - fr))
def copyP (f : Fr) (s : Sp) : Option Fr :=
 if meantD f.r0 f.r1 f.r2 ((s.1 : Int) == 0) s.2.2 < 1 then none
 else if (f.win : Int) < meantD f.r0 f.r1 f.r2 ((s.1 : Int) == 0) s.2.2 ∨ (f.out.length : Int) < meantD f.r0 f.r1 f.r2 ((s.1 : Int) == 0) s.2.2 then none
 else some { f with r0 := meantD f.r0 f.r1 f.r2 ((s.1 : Int) == 0) s.2.2, r1 := (movedR f.r0 f.r1 f.r2 (meantM f.r0 ((s.1 : Int) == 0) s.2.2)).2.1, r2 := (movedR f.r0 f.r1 f.r2 (meantM f.r0 ((s.1 : Int) == 0) s.2.2)).2.2, out := cpyP s.2.1 f.out (f.out.length - (meantD f.r0 f.r1 f.r2 ((s.1 : Int) == 0) s.2.2).toNat) s.2.1 }
def stepsP : Fr → List Nat → Nat → List Sp → Option Fr
  | f, lits, en, [] => if (f.out ++ lits).length ≤ en then some { f with out := f.out ++ lits } else none
  | f, lits, en, s :: ss =>
    if lits.length < s.1 then none
    else if (en : Int) - ((f.out ++ lits.take s.1).length : Int) < (s.2.1 : Int) then none
    else match copyP { f with out := f.out ++ lits.take s.1 } s with
      | none => none
      | some f2 => stepsP f2 (lits.drop s.1) en ss
def unpackP (O : Orc) (f : Fr) (bs : List Nat) : Option Fr :=
  match O.lit bs f.ws (mostF f) with
  | none => none
  | some (lits, ws, used) =>
    match O.seq (bs.drop used) f.t0 f.t1 f.t2 with
    | none => none
    | some (ss, a, b, c) => stepsP { f with ws := ws, t0 := a, t1 := b, t2 := c } lits (f.out.length + mostF f) ss
def behP (old : List Nat) (f2 : Fr) : (List Nat × Nat) ⊕ Fr :=
 if 16777216 < f2.out.length then .inl (old, 3)
 else if f2.told = true ∧ f2.siz < f2.out.length then .inl (old, 11)
 else if f2.told = true ∧ f2.last = true ∧ f2.out.length < f2.siz then .inl (f2.out, 11)
 else .inr f2
def stepU (O : Orc) (f : Fr) (u : Un) : (List Nat × Nat) ⊕ Fr :=
 if (lookP O f u).2 ≠ 0 then .inl ((lookP O f u).1.out, (lookP O f u).2)
 else if u.p ≠ 6 then .inr (lookP O f u).1
 else if f.kind = 0 then behP f.out { f with out := f.out ++ u.bs }
 else if f.kind = 1 then behP f.out { f with out := f.out ++ List.replicate f.bsz (u.bs[0]?.getD 0) }
 else if f.kind = 2 then
  match unpackP O f u.bs with
  | none => .inl (f.out, 11)
  | some f2 => behP f.out f2
 else behP f.out f
def runU (O : Orc) : Fr → Nat → List Un → List Nat × Nat × Nat
  | f, n, [] => (f.out, n, 0)
  | f, n, u :: us =>
    match stepU O f u with
    | .inl r => (r.1, 0, r.2)
    | .inr f1 => runU O f1 (n + u.bs.length) us
def memP (O : Orc) (b : List Nat) (bud : Nat) : List Nat × Nat × Nat := runU O (newF bud) 0 (unitsU b)
def winW (O : Orc) : Fr → List Un → Nat × Nat
 | f, [] => (f.win, 0)
 | f, u :: us => if (lookP O f u).2 ≠ 0 then (0, (lookP O f u).2) else if u.p = 1 ∨ u.p = 4 then ((lookP O f u).1.win, 0) else winW O (lookP O f u).1 us
def winP (O : Orc) (b : List Nat) : Nat × Nat := winW O (newF 16777216) (unitsU b)
end Go.Proofs.YtnjilcokkhodmaaGreatDoor

namespace Go.Proofs.YtnjilcokkhodmaaGreatDoor
open Go.RowKit Go.Shelf
set_option linter.unusedVariables false

theorem and1_u8 (x : Nat) (h : x < 256) : bits .and .u8 (x : Int) 1 = ((x % 2 : Nat) : Int) := by
 have := bits_mask .u8 8 (by decide) wraps_u8 1 (by decide) (x : Int) (by omega) (by omega)
 exact this.trans (by omega)
theorem and1_u64 (x : Nat) (h : x < 18446744073709551616) : bits .and .u64 (x : Int) 1 = ((x % 2 : Nat) : Int) := by
 have := and_mask64 x 1 h (by omega)
 exact this
theorem and3_u64 (x : Nat) (h : x < 18446744073709551616) : bits .and .u64 (x : Int) 3 = ((x % 4 : Nat) : Int) := by
 have := and_mask64 x 2 h (by omega)
 exact this
set_option maxHeartbeats 1000000 in
theorem skip_any (n : Nat) (hn : n < 18446744073709551616) (w : World) : Calls Tryz.prog 19 #[.int .u64 (n : Int)] w fun e w' => e = .returned (.bool (skipB n)) ∧ w' = w := by
 have HS := hid (show skipB n = (decide (407710288 ≤ n) && decide (n ≤ 407710303)) from rfl)
 by_cases h1 : 407710288 ≤ n
 ·have h1I : (407710288 : Int) ≤ (n : Int) := by omega
  by_cases h2 : n ≤ 407710303
  ·have h2I : (n : Int) ≤ 407710303 := by omega
   go_enter Tryz.func19, Tryz.ntmps19
   go_wp2_with fail
   go_ret
   exact ⟨by rw [HS.out, decide_eq_true h1, decide_eq_true h2]; rfl, rfl⟩
  ·have h2I : ¬ (n : Int) ≤ 407710303 := by omega
   go_enter Tryz.func19, Tryz.ntmps19
   go_wp2_with fail
   go_ret
   exact ⟨by rw [HS.out, decide_eq_true h1, decide_eq_false h2]; rfl, rfl⟩
 ·have h1I : ¬ (407710288 : Int) ≤ (n : Int) := by omega
  go_enter Tryz.func19, Tryz.ntmps19
  go_wp2_with fail
  go_ret
  exact ⟨by rw [HS.out, decide_eq_false h1]; rfl, rfl⟩

set_option maxHeartbeats 1000000 in
theorem has_any (d k : Nat) (hd : d < 256) (hk : k ≤ 7) (w : World) : Calls Tryz.prog 37 #[.int .u8 (d : Int), .int .i64 (k : Int)] w fun e w' => e = .returned (.bool (flagB d k)) ∧ w' = w := by
 obtain ⟨y, hy⟩ : ∃ y, y = d / 2 ^ k := ⟨_, rfl⟩
 have hyI : (d : Int) / 2 ^ k = (y : Int) := by rw [hy]; simp
 have hyb : y < 256 := by rw [hy]; exact Nat.lt_of_le_of_lt (Nat.div_le_self _ _) hd
 obtain ⟨z, hz⟩ : ∃ z, z = y % 2 := ⟨_, rfl⟩
 have hzI : bits .and .u8 (y : Int) 1 = (z : Int) := by rw [hz]; exact and1_u8 y hyb
 have HF := hid (show flagB d k = (z == 1) from by unfold flagB; rw [← hy, ← hz])
 have hz2 : z = 0 ∨ z = 1 := by omega
 have hkI : (k : Int) ≤ 7 := by omega
 clear hy hz
 rcases hz2 with rfl | rfl
 ·go_enter Tryz.func37, Tryz.ntmps37
  go_wp2_with fail
  go_ret
  exact ⟨by rw [HF.out]; rfl, rfl⟩
 ·go_enter Tryz.func37, Tryz.ntmps37
  go_wp2_with fail
  go_ret
  exact ⟨by rw [HF.out]; rfl, rfl⟩
theorem reserved_any (d : Nat) (hd : d < 256) (w : World) : Calls Tryz.prog 23 #[.int .u8 (d : Int)] w fun e w' => e = .returned (.bool (flagB d 3)) ∧ w' = w := by
 have H := hid (show ∀ W, Calls Tryz.prog 37 #[.int .u8 (d : Int), .int .i64 3] W fun e w' => e = .returned (.bool (flagB d 3)) ∧ w' = W from fun W => has_any d 3 hd (by omega) W)
 go_enter Tryz.func23, Tryz.ntmps23
 go_wp2_with fail
 refine (H.out _).mono ?_
 rintro e w' ⟨rfl, rfl⟩
 go_wp2_with fail
 go_ret
 exact ⟨rfl, rfl⟩
theorem summed_any (d : Nat) (hd : d < 256) (w : World) : Calls Tryz.prog 36 #[.int .u8 (d : Int)] w fun e w' => e = .returned (.bool (flagB d 2)) ∧ w' = w := by
 have H := hid (show ∀ W, Calls Tryz.prog 37 #[.int .u8 (d : Int), .int .i64 2] W fun e w' => e = .returned (.bool (flagB d 2)) ∧ w' = W from fun W => has_any d 2 hd (by omega) W)
 go_enter Tryz.func36, Tryz.ntmps36
 go_wp2_with fail
 refine (H.out _).mono ?_
 rintro e w' ⟨rfl, rfl⟩
 go_wp2_with fail
 go_ret
 exact ⟨rfl, rfl⟩
theorem single_any (d : Nat) (hd : d < 256) (w : World) : Calls Tryz.prog 40 #[.int .u8 (d : Int)] w fun e w' => e = .returned (.bool (flagB d 5)) ∧ w' = w := by
 have H := hid (show ∀ W, Calls Tryz.prog 37 #[.int .u8 (d : Int), .int .i64 5] W fun e w' => e = .returned (.bool (flagB d 5)) ∧ w' = W from fun W => has_any d 5 hd (by omega) W)
 go_enter Tryz.func40, Tryz.ntmps40
 go_wp2_with fail
 refine (H.out _).mono ?_
 rintro e w' ⟨rfl, rfl⟩
 go_wp2_with fail
 go_ret
 exact ⟨rfl, rfl⟩
theorem winLen_any (d : Nat) (hd : d < 256) (w : World) : Calls Tryz.prog 38 #[.int .u8 (d : Int)] w fun e w' => e = .returned (.int .i64 ((winLen d : Nat) : Int)) ∧ w' = w := by
  have H := hid (show ∀ W, Calls Tryz.prog 40 #[.int .u8 (d : Int)] W fun e w' => e = .returned (.bool (flagB d 5)) ∧ w' = W from fun W => single_any d hd W)
  have HW := hid (show winLen d = if flagB d 5 then 0 else 1 from rfl)
  cases hf : flagB d 5 with
  | true =>
    rw [hf] at H HW
    go_enter Tryz.func38, Tryz.ntmps38
    go_wp2_with fail
    refine (H.out _).mono ?_
    rintro e w' ⟨rfl, rfl⟩
    go_wp2_with fail
    go_ret
    exact ⟨by rw [HW.out]; rfl, rfl⟩
  | false =>
    rw [hf] at H HW
    go_enter Tryz.func38, Tryz.ntmps38
    go_wp2_with fail
    refine (H.out _).mono ?_
    rintro e w' ⟨rfl, rfl⟩
    go_wp2_with fail
    go_ret
    exact ⟨by rw [HW.out]; rfl, rfl⟩

theorem index_dic (k : Nat) (hk : k < 4) (W : World) : (Instr.index 118 (.agg #[.int .i64 0, .int .i64 1, .int .i64 2, .int .i64 4]) (.int .u8 (k : Int))).run Tryz.prog W = .ok (.int .i64 ((if k = 3 then 4 else k : Nat) : Int)) W := by
 rcases (show k = 0 ∨ k = 1 ∨ k = 2 ∨ k = 3 by omega) with rfl | rfl | rfl | rfl <;> kernel_rfl
theorem index_siz (k : Nat) (hk : k < 4) (W : World) : (Instr.index 118 (.agg #[.int .i64 0, .int .i64 2, .int .i64 4, .int .i64 8]) (.int .u8 (k : Int))).run Tryz.prog W = .ok (.int .i64 ((if k = 0 then 0 else if k = 1 then 2 else if k = 2 then 4 else 8 : Nat) : Int)) W := by
 rcases (show k = 0 ∨ k = 1 ∨ k = 2 ∨ k = 3 by omega) with rfl | rfl | rfl | rfl <;> kernel_rfl
set_option maxHeartbeats 1000000 in
theorem dicLen_any (d : Nat) (hd : d < 256) (w : World) : Calls Tryz.prog 39 #[.int .u8 (d : Int)] w fun e w' => e = .returned (.int .i64 ((dicLen d : Nat) : Int)) ∧ w' = w := by
 obtain ⟨z, hz⟩ : ∃ z, z = d % 4 := ⟨_, rfl⟩
 have hzI : bits .and .u8 (d : Int) 3 = (z : Int) := by rw [hz]; exact and3_u8 d hd
 have hix := index_dic z (by omega)
 have e : (if z = 3 then 4 else z) = dicLen d := by unfold dicLen; rw [hz]
 rw [e] at hix
 have hz4 : (z : Int) < 4 := by omega
 obtain ⟨L, hL⟩ : ∃ L, L = dicLen d := ⟨_, rfl⟩
 rw [← hL] at hix ⊢
 clear hz hL e
 go_enter Tryz.func39, Tryz.ntmps39
 go_wp2_with fail
 go_ret
 exact ⟨rfl, rfl⟩
set_option maxHeartbeats 1000000 in
theorem sizLen_any (d : Nat) (hd : d < 256) (w : World) : Calls Tryz.prog 55 #[.int .u8 (d : Int)] w fun e w' => e = .returned (.int .i64 ((sizLen d : Nat) : Int)) ∧ w' = w := by
  have H := hid (show ∀ W, Calls Tryz.prog 40 #[.int .u8 (d : Int)] W fun e w' => e = .returned (.bool (flagB d 5)) ∧ w' = W from fun W => single_any d hd W)
  obtain ⟨y, hy⟩ : ∃ y, y = d / 64 := ⟨_, rfl⟩
  have hyI : (d : Int) / 64 = (y : Int) := by omega
  have hyI2 : (d : Int) / 2 ^ 6 = (y : Int) := by omega
  have hyb : y < 4 := by omega
  obtain ⟨z, hz⟩ : ∃ z, z = y % 4 := ⟨_, rfl⟩
  have hzI : bits .and .u8 (y : Int) 3 = (z : Int) := by rw [hz]; exact and3_u8 y (by omega)
  have hix := index_siz z (by omega)
  have hz4 : (z : Int) < 4 := by omega
  have hyb2 : (y : Int) < 4 := by omega
  obtain ⟨L, hL⟩ : ∃ L, L = sizLen d := ⟨_, rfl⟩
  rw [← hL]
  by_cases h0 : z = 0
  · subst h0
    cases hf : flagB d 5 with
    | true =>
      rw [hf] at H
      have hL1 : L = 1 := by rw [hL]; unfold sizLen; rw [← hy, ← hz, hf]; rfl
      subst hL1
      clear hz hL hy hix
      go_enter Tryz.func55, Tryz.ntmps55
      go_wp2_with fail
      refine (H.out _).mono ?_
      rintro e w' ⟨rfl, rfl⟩
      go_wp2_with fail
      go_ret
      exact ⟨rfl, rfl⟩
    | false =>
      rw [hf] at H
      have hL1 : L = 0 := by rw [hL]; unfold sizLen; rw [← hy, ← hz, hf]; rfl
      subst hL1
      have hix0 : ∀ W : World, (Instr.index 118 (.agg #[.int .i64 0, .int .i64 2, .int .i64 4, .int .i64 8]) (.int .u8 0)).run Tryz.prog W = .ok (.int .i64 0) W := fun W => by kernel_rfl
      clear hz hL hy hix
      go_enter Tryz.func55, Tryz.ntmps55
      go_wp2_with fail
      refine (H.out _).mono ?_
      rintro e w' ⟨rfl, rfl⟩
      go_wp2_with fail
      go_ret
      exact ⟨rfl, rfl⟩
  · have e : (if z = 0 then 0 else if z = 1 then 2 else if z = 2 then 4 else 8) = L := by rw [hL]; unfold sizLen; rw [← hy, ← hz, if_neg h0, if_neg h0]
    rw [e] at hix
    have h0b : ((z : Int) == 0) = false := by simp; omega
    have h0d : decide (z = 0) = false := decide_eq_false h0
    clear hz hL hy e
    go_enter Tryz.func55, Tryz.ntmps55
    go_wp2_with fail
    go_ret
    exact ⟨rfl, rfl⟩
set_option maxHeartbeats 1000000 in
theorem hdLen_any (d : Nat) (hd : d < 256) (w : World) : Calls Tryz.prog 34 #[.int .u8 (d : Int)] w fun e w' => e = .returned (.int .u64 ((hdLen d : Nat) : Int)) ∧ w' = w := by
  have H1 := hid (show ∀ W : World, _ from fun W => winLen_any d hd W)
  have H2 := hid (show ∀ W : World, _ from fun W => dicLen_any d hd W)
  have H3 := hid (show ∀ W : World, _ from fun W => sizLen_any d hd W)
  have b1 : winLen d ≤ 1 := by unfold winLen; split <;> omega
  have b2 : dicLen d ≤ 4 := by unfold dicLen; split <;> omega
  have b3 : sizLen d ≤ 8 := by unfold sizLen; repeat' split
                               all_goals omega
  have e : hdLen d = winLen d + dicLen d + sizLen d := rfl
  generalize winLen d = x at *
  generalize dicLen d = y at *
  generalize sizLen d = z at *
  generalize hdLen d = t at *
  obtain ⟨s, hs⟩ : ∃ s, s = x + y := ⟨_, rfl⟩
  have hsI : (x : Int) + (y : Int) = (s : Int) := by omega
  have htI : (s : Int) + (z : Int) = (t : Int) := by omega
  have hsb : (s : Int) ≤ 5 := by omega
  have htb : (t : Int) ≤ 13 := by omega
  have hwt : IntKind.u64.wrap (t : Int) = (t : Int) := by rw [IntKind.wrap_u64]; omega
  clear e hs
  go_enter Tryz.func34, Tryz.ntmps34
  go_wp2_with fail
  refine (H1.out _).mono ?_
  rintro e w' ⟨rfl, rfl⟩
  go_wp2_with fail
  refine (H2.out _).mono ?_
  rintro e w' ⟨rfl, rfl⟩
  go_wp2_with fail
  refine (H3.out _).mono ?_
  rintro e w' ⟨rfl, rfl⟩
  go_wp2_with fail
  go_ret
  exact ⟨rfl, rfl⟩

set_option maxHeartbeats 2000000 in
theorem winOf_any (v : Nat) (hv : v < 256) (w : World) : Calls Tryz.prog 41 #[.int .u8 (v : Int)] w fun e w' => e = .returned (.int .u64 ((winOf v : Nat) : Int)) ∧ w' = w := by
 obtain ⟨q, hq⟩ : ∃ q, q = v / 8 := ⟨_, rfl⟩
 obtain ⟨r, hr⟩ : ∃ r, r = v % 8 := ⟨_, rfl⟩
 obtain ⟨k, hk⟩ : ∃ k, k = 10 + q := ⟨_, rfl⟩
 obtain ⟨P, hP⟩ : ∃ P, P = 2 ^ k := ⟨_, rfl⟩
 obtain ⟨p8, hp8⟩ : ∃ p8, p8 = P / 8 := ⟨_, rfl⟩
 obtain ⟨m, hm⟩ : ∃ m, m = p8 * r := ⟨_, rfl⟩
 obtain ⟨t, ht⟩ : ∃ t, t = P + m := ⟨_, rfl⟩
 have e : winOf v = t := by unfold winOf; rw [ht, hm, hp8, hP, hk, hq, hr]
 have hPb : P ≤ 2199023255552 := by rw [hP]; exact Nat.pow_le_pow_right (n := 2) (j := 41) (by omega) (by omega)
 have hmb : m ≤ 2199023255552 * 7 := by
  have : m ≤ p8 * 7 := by rw [hm]; exact Nat.mul_le_mul_left _ (by omega)
  omega
 have hqI : Int.tdiv (v : Int) 8 = (q : Int) := by rw [Int.tdiv_eq_ediv_of_nonneg (by omega)]; omega
 have hqI2 : (v : Int) / 8 = (q : Int) := by omega
 have hkI : 10 + (q : Int) = (k : Int) := by omega
 have hPI : (2 : Int) ^ k = (P : Int) := by rw [hP]; simp
 have h8I : Int.tdiv (P : Int) 8 = (p8 : Int) := by rw [Int.tdiv_eq_ediv_of_nonneg (by omega)]; omega
 have h8I2 : (P : Int) / 8 = (p8 : Int) := by omega
 have hrI : Int.tmod (v : Int) 8 = (r : Int) := by rw [Int.tmod_eq_emod_of_nonneg (by omega)]; omega
 have hrI2 : (v : Int) % 8 = (r : Int) := by omega
 have hmI : (p8 : Int) * (r : Int) = (m : Int) := by rw [hm]; simp
 have htI : (P : Int) + (m : Int) = (t : Int) := by omega
 have hq32 : (q : Int) < 32 := by omega
 have hk42 : (k : Int) < 42 := by omega
 have hr8 : (r : Int) < 8 := by omega
 have hPbI : (P : Int) ≤ 2199023255552 := by omega
 have hp8I : (p8 : Int) ≤ 2199023255552 := by omega
 have hmbI : (m : Int) ≤ 15393162788864 := by omega
 have htbI : (t : Int) ≤ 17592186044416 := by omega
 have w1 : IntKind.u8.wrap (k : Int) = (k : Int) := by rw [IntKind.wrap_u8]; omega
 have w1q : IntKind.u8.wrap (q : Int) = (q : Int) := by rw [IntKind.wrap_u8]; omega
 have w1r : IntKind.u8.wrap (r : Int) = (r : Int) := by rw [IntKind.wrap_u8]; omega
 have w2 : IntKind.u64.wrap (P : Int) = (P : Int) := by rw [IntKind.wrap_u64]; omega
 have w3 : IntKind.u64.wrap (m : Int) = (m : Int) := by rw [IntKind.wrap_u64]; omega
 have w4 : IntKind.u64.wrap (t : Int) = (t : Int) := by rw [IntKind.wrap_u64]; omega
 have w5 : IntKind.u64.wrap (r : Int) = (r : Int) := by rw [IntKind.wrap_u64]; omega
 have w6 : IntKind.u64.wrap (p8 : Int) = (p8 : Int) := by rw [IntKind.wrap_u64]; omega
 rw [e]
 clear hq hr hk hP hp8 hm ht e
 go_enter Tryz.func41, Tryz.ntmps41
 go_wp2_with fail
 go_ret
 exact ⟨rfl, rfl⟩
set_option maxHeartbeats 1000000 in
theorem blBeh_any (l : Bool) (n : Nat) (hn : n < 16777216) (w : World) : Calls Tryz.prog 35 #[.agg #[.bool l, .int .i64 ((blKind n : Nat) : Int), .int .i64 ((blSize n : Nat) : Int)]] w fun e w' => e = .returned (.int .u64 ((blBeh n : Nat) : Int)) ∧ Keep noBlock w w' := by
 have hs : blSize n < 2097152 := by unfold blSize; omega
 have hk : blKind n < 4 := by unfold blKind; omega
 have e : blBeh n = if blKind n = 1 then 1 else blSize n := rfl
 generalize blKind n = k at *
 generalize blSize n = s at *
 rw [e]
 have hsI : (s : Int) < 2097152 := by omega
 have hws : IntKind.u64.wrap (s : Int) = (s : Int) := by rw [IntKind.wrap_u64]; omega
 clear e
 by_cases h1 : k = 1
 ·subst h1
  rw [if_pos rfl]
  go_enter Tryz.func35, Tryz.ntmps35
  go_wp2_with fail
  go_ret
  exact ⟨rfl, (Keep.refl _ w).alloc _⟩
 ·rw [if_neg h1]
  have h1b : ((k : Int) == 1) = false := by simp; omega
  have h1d : decide (k = 1) = false := decide_eq_false h1
  go_enter Tryz.func35, Tryz.ntmps35
  go_wp2_with fail
  go_ret
  exact ⟨rfl, (Keep.refl _ w).alloc _⟩
section
set_option maxRecDepth 100000 in
set_option maxHeartbeats 2000000 in
theorem number_any8 (a : Option Addr) (cap gb off : Nat) (bs : List Nat) (w : World) (hB : Bytes w a cap gb off bs) (hl : bs.length ≤ 8) :
  Calls Tryz.prog 20 #[.slice a bs.length cap] w fun e w' => e = .returned (.int .u64 ((numN bs : Nat) : Int)) ∧ w' = w := by
 obtain ⟨n, hn⟩ : ∃ n, n = bs.length := ⟨_, rfl⟩
 have HB := hid (And.intro hB hn)
 rw [← hn] at hl ⊢
 have hat := hB.at_
 clear hB
 go_enter Tryz.func20, Tryz.ntmps20
 go_wp2_with fail
 go_loop [2, 7] (fun v2 v7 => ∃ j N : Nat, v7 = .int .i64 (j : Int) ∧ j ≤ n ∧ v2 = .int .u64 (N : Int) ∧ Hid (N = numN (bs.take j))) (fun _ v7 => n - (intOf v7).toNat)
 case atStart => exact ⟨0, 0, rfl, Nat.zero_le _, rfl, by rw [List.take_zero]; rfl⟩
 case round =>
  obtain ⟨j, N, rfl, hj, rfl, HN⟩ := hrel
  by_cases hlt : j < n
  ·have hltI : (j : Int) < (n : Int) := by omega
   have hj7 : (j : Int) ≤ 7 := by omega
   obtain rfl := hat.resolve_right (fun e => by rw [e] at hn; simp at hn; omega)
   obtain ⟨y, hy⟩ : ∃ y, y = bs[j]?.getD 0 := ⟨_, rfl⟩
   have hcy := HB.out.1.cells j (by rw [← HB.out.2]; exact hlt)
   rw [← hy] at hcy
   have hy256 : y < 256 := by rw [hy]; exact HB.out.1.lt j
   have HY := hid hy
   have hy2 : (y : Int) < 256 := by omega
   obtain ⟨j8, hj8⟩ : ∃ j8, j8 = 8 * j := ⟨_, rfl⟩
   have e8 : 8 * (j : Int) = (j8 : Int) := by omega
   have b8 : (j8 : Int) ≤ 56 := by omega
   have H8 := hid hj8
   have hwy : IntKind.u64.wrap (y : Int) = (y : Int) := by rw [IntKind.wrap_u64]; omega
   clear hy hj8
   have hpw : 256 ^ j = 2 ^ j8 := by rw [H8.out, Nat.pow_mul]
   have hj4 : 2 ^ j8 ≤ 2 ^ 56 := Nat.pow_le_pow_right (by omega) (by have := H8.out; omega)
   have hor : bits .or .u64 (N : Int) (IntKind.u64.wrap ((y : Int) * 2 ^ j8)) = ((N + 256 ^ j * y : Nat) : Int) := by
    have hN : N < 256 ^ j := by
     rw [HN.out]
     have := numN_lt (l := bs.take j) (fun b hb => lt_mem HB.out.1.lt b (List.mem_of_mem_take hb))
     rwa [List.length_take, Nat.min_eq_left (by have := HB.out.2; omega)] at this
    rw [hpw] at hN ⊢
    have hm : 2 ^ j8 * y ≤ 2 ^ 56 * 255 := Nat.mul_le_mul hj4 (by omega)
    have ey : IntKind.u64.wrap ((y : Int) * 2 ^ j8) = ((2 ^ j8 * y : Nat) : Int) := by
     rw [show ((y : Int) * 2 ^ j8) = ((2 ^ j8 * y : Nat) : Int) from by rw [Nat.mul_comm]; simp]
     exact wraps_u64 _ (by omega) (by omega)
    rw [ey]
    exact or_add64 N y j8 hN (by omega)
   obtain ⟨N2, hN2⟩ : ∃ N2, N2 = N + 256 ^ j * y := ⟨_, rfl⟩
   rw [← hN2] at hor
   have HN2 := hid (show N2 = numN (bs.take (j + 1)) from by rw [hN2, numN_take (by have := HB.out.2; omega), ← HN.out, ← HY.out])
   clear hN2 hpw hj4
   go_wp2_with fail
   go_round
   case rel => exact ⟨j + 1, N2, by go_num, by omega, rfl, HN2.out⟩
   case measure => simp [intOf]; omega
  ·obtain rfl : j = n := by omega
   have HE := hid (show N = numN bs from by rw [HN.out, List.take_of_length_le (by have := HB.out.2; omega)])
   go_wp2_with fail
   go_ret
   exact ⟨by rw [← HE.out]; rfl, rfl⟩
end
end Go.Proofs.YtnjilcokkhodmaaGreatDoor

namespace Go.Proofs.YtnjilcokkhodmaaGreatDoor
open Go.RowKit Go.Shelf
set_option linter.unusedVariables false

theorem info42s : (Tryz.prog.info? 42).map (·.size) = some 3 := by kernel_rfl
set_option maxRecDepth 100000 in
set_option maxHeartbeats 2000000 in
theorem blockOf_any (a : Option Addr) (cap gb off : Nat) (bs : List Nat) (w : World) (hB : Bytes w a cap gb off bs) (hl : bs.length = 3) :
  Calls Tryz.prog 26 #[.slice a bs.length cap] w fun e w' => e = .returned (.agg #[.bool (blLast (numN bs)), .int .i64 ((blKind (numN bs) : Nat) : Int), .int .i64 ((blSize (numN bs) : Nat) : Int)]) ∧ Keep noBlock w w' := by
 have hN : numN bs < 16777216 := by
  have := numN_lt (l := bs) (fun b hb => lt_mem hB.lt b hb)
  rw [hl] at this
  omega
 have HNu := (show Hid (∀ W, Keep noBlock w W → Calls Tryz.prog 20 #[.slice a bs.length cap] W fun e w' => e = .returned (.int .u64 ((numN bs : Nat) : Int)) ∧ w' = W) from fun W hk => number_any8 a cap gb off bs W (hB.keep hk (fun _ h => h)) (by omega))
 obtain ⟨n, hn⟩ : ∃ n, n = numN bs := ⟨_, rfl⟩
 rw [← hn] at HNu hN ⊢
 obtain ⟨L, hL⟩ : ∃ L, L = bs.length := ⟨_, rfl⟩
 rw [← hL] at HNu ⊢
 obtain ⟨b0, hb0⟩ : ∃ b0, b0 = n % 2 := ⟨_, rfl⟩
 have h0I : bits .and .u64 (n : Int) 1 = (b0 : Int) := by rw [hb0]; exact and1_u64 n (by omega)
 obtain ⟨y, hy⟩ : ∃ y, y = n / 2 := ⟨_, rfl⟩
 have hyI : (n : Int) / 2 = (y : Int) := by omega
 have hyI2 : (n : Int) / 2 ^ 1 = (y : Int) := by omega
 obtain ⟨k, hk⟩ : ∃ k, k = y % 4 := ⟨_, rfl⟩
 have hkI : bits .and .u64 (y : Int) 3 = (k : Int) := by rw [hk]; exact and3_u64 y (by omega)
 obtain ⟨s, hs⟩ : ∃ s, s = n / 8 := ⟨_, rfl⟩
 have hsI : (n : Int) / 8 = (s : Int) := by omega
 have hsI2 : (n : Int) / 2 ^ 3 = (s : Int) := by omega
 have e2 : blKind n = k := by unfold blKind; rw [hk, hy]
 have e3 : blSize n = s := hs.symm
 have hkb : (k : Int) < 4 := by omega
 have hsb : (s : Int) < 2097152 := by omega
 have hyb : (y : Int) < 8388608 := by omega
 have hwk : IntKind.i64.wrap (k : Int) = (k : Int) := by rw [IntKind.wrap_i64]; omega
 have hws : IntKind.i64.wrap (s : Int) = (s : Int) := by rw [IntKind.wrap_i64]; omega
 have hnb : (n : Int) < 16777216 := by omega
 rw [e2, e3]
 have hz2 : b0 = 0 ∨ b0 = 1 := by omega
 have HL := hid (show blLast n = (b0 == 1) from by unfold blLast; rw [hb0])
 clear hn hb0 hy hk hs e2 e3 hB hL hl
 rcases hz2 with rfl | rfl
 ·go_enter Tryz.func26, Tryz.ntmps26
  go_wp2_with fail
  refine (HNu.out _ ((Keep.refl _ w).alloc _)).mono ?_
  rintro e w1 ⟨rfl, rfl⟩
  go_wp2_with fail
  refine bodyPost_ret (results_cell rfl _ _ _ ⟨w.heap.size, 0, none⟩ (.agg #[.bool false, .int .i64 (k : Int), .int .i64 (s : Int)]) rfl (run_loadVar_row _ _ 42 42 _ (0, 0) _ (alloc_new w _) Tryz.underlying42 rfl info42s)) rfl ?_
  exact ⟨by rw [HL.out]; rfl, (Keep.refl _ w).alloc _⟩
 ·go_enter Tryz.func26, Tryz.ntmps26
  go_wp2_with fail
  refine (HNu.out _ ((Keep.refl _ w).alloc _)).mono ?_
  rintro e w1 ⟨rfl, rfl⟩
  go_wp2_with fail
  refine bodyPost_ret (results_cell rfl _ _ _ ⟨w.heap.size, 0, none⟩ (.agg #[.bool true, .int .i64 (k : Int), .int .i64 (s : Int)]) rfl (run_loadVar_row _ _ 42 42 _ (0, 0) _ (alloc_new w _) Tryz.underlying42 rfl info42s)) rfl ?_
  exact ⟨by rw [HL.out]; rfl, (Keep.refl _ w).alloc _⟩
theorem endsHead_any (p : Nat) (v : Value) (b : Bool) (hp : p < 100) (w : World) (hv : ∃ a n c, v = .slice a n c) : Calls Tryz.prog 13 #[.agg #[.int .i64 (p : Int), v, .bool b]] w fun e w' => e = .returned (.bool (decide (p = 1 ∨ p = 4))) ∧ Keep noBlock w w' := by
 obtain ⟨a, n, c, rfl⟩ := hv
 by_cases h1 : p = 1
 ·subst h1
  go_enter Tryz.func13, Tryz.ntmps13
  go_wp2_with fail
  go_ret
  exact ⟨rfl, (Keep.refl _ w).alloc _⟩
 ·have h1b : ((p : Int) == 1) = false := by simp; omega
  have h1d : decide (p = 1) = false := decide_eq_false h1
  by_cases h4 : p = 4
  ·subst h4
   go_enter Tryz.func13, Tryz.ntmps13
   go_wp2_with fail
   go_ret
   exact ⟨rfl, (Keep.refl _ w).alloc _⟩
  ·have h4b : ((p : Int) == 4) = false := by simp; omega
   have h4d : decide (p = 4) = false := decide_eq_false h4
   go_enter Tryz.func13, Tryz.ntmps13
   go_wp2_with fail
   go_ret
   exact ⟨by rw [decide_eq_false (show ¬ (p = 1 ∨ p = 4) by omega)]; rfl, (Keep.refl _ w).alloc _⟩

def frC (win dic siz : Nat) (told : Bool) (x0 x1 x2 ws : Value) (r0 r1 r2 : Int) (fl : Nat) (last : Bool) (kind bsz : Nat) (out : Value) (bud : Nat) : Array Value :=
 #[.int .u64 (win : Int), .int .u64 (dic : Int), .int .u64 (siz : Int), .bool told, x0, x1, x2, ws, .int .i64 r0, .int .i64 r1, .int .i64 r2, .int .u8 (fl : Int), .bool last, .int .i64 (kind : Int), .int .i64 (bsz : Int), out, .int .u64 (bud : Int)]
section
attribute [local go_sem] maxSem_eq minSem_eq
set_option maxHeartbeats 2000000 in
theorem newFrame_any (b : Int) (hb1 : -9223372036854775808 ≤ b) (hb2 : b ≤ 9223372036854775807) (B : Nat) (hB : (B : Int) = min (max b 0) 16777216) (w : World) :
  Calls Tryz.prog 9 #[.int .i64 b] w fun e w' => e = .returned (.pointer (some ⟨w.heap.size, 0, none⟩)) ∧ w' = w.alloc (.cells (frC 0 0 0 false (.slice none 0 0) (.slice none 0 0) (.slice none 0 0) (.slice none 0 0) 1 4 8 0 false 0 0 (.slice none 0 0) B) 44) := by
 obtain ⟨X, hX⟩ : ∃ X : Int, X = max b 0 := ⟨_, rfl⟩
 have hmax := maxSem_run .i64 #[3, 3] 3 b 0 X hX
 have hmin := minSem_run .i64 #[3, 3] 3 X 16777216 (B : Int) (by rw [hX]; exact hB)
 have hBb : (B : Int) ≤ 16777216 := by omega
 have hwB : IntKind.u64.wrap (B : Int) = (B : Int) := by rw [IntKind.wrap_u64]; omega
 unfold frC
 clear hB hX
 go_enter Tryz.func9, Tryz.ntmps9
 go_wp2_with fail
 go_ret
 exact ⟨rfl, rfl⟩
end
end Go.Proofs.YtnjilcokkhodmaaGreatDoor

namespace Go.Proofs.YtnjilcokkhodmaaGreatDoor
open Go.RowKit Go.Shelf
set_option linter.unusedVariables false

def totU : List Un → Nat
 | [] => 0
 | u :: us => u.bs.length + totU us
theorem cutU_ge {p s : Nat} {rest : List Nat} {k : List Nat → List Nat → List Un} (h : s ≤ rest.length) : cutU p s rest k = ⟨p, rest.take s, true⟩ :: k (rest.take s) (rest.drop s) := by
 unfold cutU; rw [if_neg (by omega)]
theorem cutU_lt {p s : Nat} {rest : List Nat} {k : List Nat → List Nat → List Un} (h : rest.length < s) : cutU p s rest k = [⟨p, [], false⟩] := by
 unfold cutU; rw [if_pos h]
theorem cutU_whole {p s : Nat} {rest : List Nat} {k : List Nat → List Nat → List Un} (h : ∀ u ∈ cutU p s rest k, u.wh = true) : s ≤ rest.length ∧ ∀ u ∈ k (rest.take s) (rest.drop s), u.wh = true := by
 by_cases hl : rest.length < s
 ·rw [cutU_lt hl] at h
  have := h _ (List.mem_singleton_self _)
  cases this
 ·rw [cutU_ge (by omega)] at h
  exact ⟨by omega, fun u hu => h u (List.mem_cons_of_mem _ hu)⟩
theorem cutU_app {p s : Nat} {rest : List Nat} {k : List Nat → List Nat → List Un} (h : s ≤ rest.length) (c : List Nat) : cutU p s (rest ++ c) k = ⟨p, rest.take s, true⟩ :: k (rest.take s) (rest.drop s ++ c) := by
 rw [cutU_ge (by rw [List.length_append]; omega), List.take_append_of_le_length h, List.drop_append_of_le_length h]
theorem sumU_app {s : Bool} {rest : List Nat} (c : List Nat) (h : ∀ u ∈ sumU s rest, u.wh = true) : sumU s (rest ++ c) = sumU s rest := by
  unfold sumU at *
  cases s with
  | false => rfl
  | true =>
    simp only [if_true] at *
    have h1 := (cutU_whole h).1
    rw [cutU_app h1, cutU_ge h1]
theorem blocksU_app (s : Bool) (c : List Nat) : ∀ (f g : Nat) (rest : List Nat), rest.length < f → (rest ++ c).length < g → (∀ u ∈ blocksU s f rest, u.wh = true) → blocksU s g (rest ++ c) = blocksU s f rest
  | 0, _, rest, h, _, _ => by omega
  | f + 1, 0, rest, _, h, _ => by omega
  | f + 1, g + 1, rest, h1, h2, h => by
    unfold blocksU at h ⊢
    obtain ⟨a1, a2⟩ := cutU_whole h
    obtain ⟨b1, b2⟩ := cutU_whole a2
    rw [cutU_app a1, cutU_ge a1, cutU_app b1, cutU_ge b1]
    congr 2
    cases hl : blLast (numN (rest.take 3)) with
    | true => rw [hl] at b2; exact sumU_app c b2
    | false =>
      rw [hl] at b2
      simp only [if_false, Bool.false_eq_true] at b2 ⊢
      rw [List.length_append] at h2
      exact blocksU_app s c f g _ (by simp; omega) (by simp; omega) b2
theorem unitsU_app (b c : List Nat) (h : ∀ u ∈ unitsU b, u.wh = true) : unitsU (b ++ c) = unitsU b := by
 unfold unitsU at h ⊢
 obtain ⟨a1, a2⟩ := cutU_whole h
 rw [cutU_app a1, cutU_ge a1]
 congr 1
 by_cases hs : skipB (numN (b.take 4)) = true
 ·rw [if_pos hs] at a2
  rw [if_pos hs, if_pos hs]
  unfold skipU at a2 ⊢
  obtain ⟨b1, b2⟩ := cutU_whole a2
  obtain ⟨c1, c2⟩ := cutU_whole b2
  rw [cutU_app b1, cutU_ge b1, cutU_app c1, cutU_ge c1]
 ·rw [if_neg hs] at a2
  rw [if_neg hs, if_neg hs]
  by_cases hf : numN (b.take 4) = 4247762216
  ·rw [if_pos hf] at a2
   rw [if_pos hf, if_pos hf]
   unfold frameU at a2 ⊢
   obtain ⟨b1, b2⟩ := cutU_whole a2
   obtain ⟨c1, c2⟩ := cutU_whole b2
   rw [cutU_app b1, cutU_ge b1, cutU_app c1, cutU_ge c1]
   congr 2
   exact blocksU_app _ c _ _ _ (by omega) (by omega) c2
  ·rw [if_neg hf, if_neg hf]

def CutAt (L L' : List Un) : Prop := ∃ pre u post, L = pre ++ u :: post ∧ L' = pre ++ [⟨u.p, [], false⟩]
theorem CutAt.cons {L L' : List Un} (u : Un) (h : CutAt L L') : CutAt (u :: L) (u :: L') := by
 obtain ⟨pre, x, post, e1, e2⟩ := h
 exact ⟨u :: pre, x, post, by rw [e1]; rfl, by rw [e2]; rfl⟩
theorem cutU_cut {p s k : Nat} {rest : List Nat} {K K' : List Nat → List Nat → List Un} (h1 : s ≤ rest.length) (hk : k < totU (cutU p s rest K))
  (ht : s ≤ k → k - s < totU (K (rest.take s) (rest.drop s)) → CutAt (K (rest.take s) (rest.drop s)) (K' (rest.take s) ((rest.drop s).take (k - s)))) : CutAt (cutU p s rest K) (cutU p s (rest.take k) K') := by
 rw [cutU_ge h1] at hk ⊢
 by_cases h : k < s
 ·rw [cutU_lt (by rw [List.length_take]; omega)]
  exact ⟨[], _, _, rfl, rfl⟩
 ·simp only [totU, List.length_take] at hk
  by_cases hkl : k ≤ rest.length
  ·rw [cutU_ge (by rw [List.length_take]; omega)]
   have e1 : (rest.take k).take s = rest.take s := by rw [List.take_take, Nat.min_eq_left (by omega)]
   have e2 : (rest.take k).drop s = (rest.drop s).take (k - s) := by rw [List.drop_take]
   rw [e1, e2]
   exact (ht (by omega) (by omega)).cons _
  ·have e : rest.take k = rest := List.take_of_length_le (by omega)
   rw [e, cutU_ge h1]
   have e2 : (rest.drop s).take (k - s) = rest.drop s := List.take_of_length_le (by rw [List.length_drop]; omega)
   have := ht (by omega) (by omega)
   rw [e2] at this
   exact this.cons _
theorem sumU_cut {s : Bool} {k : Nat} {rest : List Nat} (h : ∀ u ∈ sumU s rest, u.wh = true) (hk : k < totU (sumU s rest)) : CutAt (sumU s rest) (sumU s (rest.take k)) := by
  unfold sumU at *
  cases s with
  | false => simp [totU] at hk
  | true =>
    simp only [if_true] at *
    exact cutU_cut (cutU_whole h).1 hk (fun _ h2 => by simp [totU] at h2)
theorem blocksU_cut (s : Bool) : ∀ (f g k : Nat) (rest : List Nat), rest.length < f → (rest.take k).length < g → (∀ u ∈ blocksU s f rest, u.wh = true) → k < totU (blocksU s f rest) → CutAt (blocksU s f rest) (blocksU s g (rest.take k))
  | 0, _, k, rest, h, _, _, _ => by omega
  | f + 1, 0, k, rest, _, h, _, _ => by omega
  | f + 1, g + 1, k, rest, h1, h2, h, hk => by
    unfold blocksU at h hk ⊢
    obtain ⟨a1, a2⟩ := cutU_whole h
    obtain ⟨b1, b2⟩ := cutU_whole a2
    refine cutU_cut a1 hk (fun k1 hk1 => ?_)
    refine cutU_cut b1 hk1 (fun k2 hk2 => ?_)
    cases hl : blLast (numN (rest.take 3)) with
    | true =>
      rw [hl] at b2 hk2
      exact sumU_cut b2 hk2
    | false =>
      rw [hl] at b2 hk2
      simp only [if_false, Bool.false_eq_true] at b2 hk2 ⊢
      rw [List.length_take] at h2
      exact blocksU_cut s f g _ _ (by simp; omega) (by simp; omega) b2 hk2
theorem blocksU_fuel (s : Bool) : ∀ (f g : Nat) (rest : List Nat), rest.length < f → rest.length < g → blocksU s f rest = blocksU s g rest
  | 0, _, rest, h, _ => by omega
  | f + 1, 0, rest, _, h => by omega
  | f + 1, g + 1, rest, h1, h2 => by
    unfold blocksU
    by_cases a1 : 3 ≤ rest.length
    · rw [cutU_ge a1, cutU_ge a1]
      congr 1
      by_cases b1 : blBeh (numN (rest.take 3)) ≤ (rest.drop 3).length
      · rw [cutU_ge b1, cutU_ge b1]
        congr 1
        rw [blocksU_fuel s f g _ (by simp; omega) (by simp; omega)]
      · rw [cutU_lt (by omega), cutU_lt (by omega)]
    · rw [cutU_lt (by omega), cutU_lt (by omega)]
theorem unitsU_cut (b : List Nat) (k : Nat) (h : ∀ u ∈ unitsU b, u.wh = true) (hk : k < totU (unitsU b)) : CutAt (unitsU b) (unitsU (b.take k)) := by
 unfold unitsU at h hk ⊢
 obtain ⟨a1, a2⟩ := cutU_whole h
 refine cutU_cut a1 hk (fun k1 hk1 => ?_)
 by_cases hs : skipB (numN (b.take 4)) = true
 ·rw [if_pos hs] at a2 hk1
  rw [if_pos hs, if_pos hs]
  unfold skipU at a2 hk1 ⊢
  obtain ⟨b1, b2⟩ := cutU_whole a2
  exact cutU_cut b1 hk1 (fun k2 hk2 => cutU_cut (cutU_whole b2).1 hk2 (fun _ h2 => by simp [totU] at h2))
 ·rw [if_neg hs] at a2 hk1
  rw [if_neg hs, if_neg hs]
  by_cases hf : numN (b.take 4) = 4247762216
  ·rw [if_pos hf] at a2 hk1
   rw [if_pos hf, if_pos hf]
   unfold frameU at a2 hk1 ⊢
   obtain ⟨b1, b2⟩ := cutU_whole a2
   refine cutU_cut b1 hk1 (fun k2 hk2 => cutU_cut (cutU_whole b2).1 hk2 (fun k3 hk3 => ?_))
   exact blocksU_cut _ _ _ _ _ (by omega) (by omega) (cutU_whole b2).2 hk3
  ·rw [if_neg hf] at hk1
   simp [totU] at hk1
theorem cutU_tot {p s : Nat} {rest : List Nat} {K : List Nat → List Nat → List Un} (ht : s ≤ rest.length → totU (K (rest.take s) (rest.drop s)) ≤ (rest.drop s).length) : totU (cutU p s rest K) ≤ rest.length := by
 by_cases h : rest.length < s
 ·rw [cutU_lt h]; simp [totU]
 ·rw [cutU_ge (by omega)]
  have := ht (by omega)
  simp only [totU, List.length_take, List.length_drop] at *
  omega
theorem sumU_tot (s : Bool) (rest : List Nat) : totU (sumU s rest) ≤ rest.length := by
 unfold sumU
 cases s with
 | false => simp [totU]
 | true => simp only [if_true]; exact cutU_tot (fun _ => by simp [totU])
theorem blocksU_tot (s : Bool) : ∀ (f : Nat) (rest : List Nat), totU (blocksU s f rest) ≤ rest.length
  | 0, rest => by simp [blocksU, totU]
  | f + 1, rest => by
    unfold blocksU
    refine cutU_tot (fun _ => cutU_tot (fun _ => ?_))
    split
    · exact sumU_tot _ _
    · exact blocksU_tot s f _
theorem unitsU_tot (b : List Nat) : totU (unitsU b) ≤ b.length := by
 unfold unitsU
 refine cutU_tot (fun _ => ?_)
 split
 ·exact cutU_tot (fun _ => cutU_tot (fun _ => by simp [totU]))
 ·split
  ·exact cutU_tot (fun _ => cutU_tot (fun _ => blocksU_tot _ _ _))
  ·simp [totU]
theorem unitsU_four (b : List Nat) (h : ∀ u ∈ unitsU b, u.wh = true) : 4 ≤ totU (unitsU b) := by
 unfold unitsU at h ⊢
 have h1 := (cutU_whole h).1
 rw [cutU_ge h1]
 simp only [totU, List.length_take]
 omega

theorem cpyP_pre : ∀ (k : Nat) (out : List Nat) (fr left : Nat), out <+: cpyP k out fr left
  | 0, out, _, _ => List.prefix_refl _
  | k + 1, out, fr, left => by
    unfold cpyP
    split
    · exact List.prefix_refl _
    · exact List.IsPrefix.trans (List.prefix_append _ _) (cpyP_pre k _ fr _)
theorem copyP_pre {f f2 : Fr} {s : Sp} (h : copyP f s = some f2) : f.out <+: f2.out := by
 unfold copyP at h
 split at h
 ·cases h
 ·split at h
  ·cases h
  ·cases h; exact cpyP_pre _ _ _ _
theorem stepsP_pre : ∀ (ss : List Sp) (f f2 : Fr) (lits : List Nat) (en : Nat), stepsP f lits en ss = some f2 → f.out <+: f2.out
  | [], f, f2, lits, en, h => by
    unfold stepsP at h
    split at h
    · cases h; exact List.prefix_append _ _
    · cases h
  | s :: ss, f, f2, lits, en, h => by
    unfold stepsP at h
    split at h
    · cases h
    · split at h
      · cases h
      · split at h
        · cases h
        · rename_i f3 h3
          exact ((List.prefix_append _ _).trans (copyP_pre h3)).trans (stepsP_pre ss f3 f2 _ en h)
theorem unpackP_pre {O : Orc} {f f2 : Fr} {bs : List Nat} (h : unpackP O f bs = some f2) : f.out <+: f2.out := by
 unfold unpackP at h
 split at h
 ·cases h
 ·split at h
  ·cases h
  ·have := stepsP_pre _ _ _ _ _ h
   exact this
theorem lookP_out (O : Orc) (f : Fr) (u : Un) : (lookP O f u).1.out = f.out := by
 unfold lookP
 repeat' split
 all_goals rfl
theorem behP_inr {old : List Nat} {f2 f1 : Fr} (h : behP old f2 = .inr f1) : f1 = f2 := by
 unfold behP at h
 repeat' split at h
 all_goals (first | (cases h; rfl) | cases h)
theorem stepU_pre {O : Orc} {f f1 : Fr} {u : Un} (h : stepU O f u = .inr f1) : f.out <+: f1.out := by
 unfold stepU at h
 split at h
 ·cases h
 ·split at h
  ·cases h; rw [lookP_out]; exact List.prefix_refl _
  ·split at h
   ·rw [behP_inr h]; exact List.prefix_append _ _
   ·split at h
    ·rw [behP_inr h]; exact List.prefix_append _ _
    ·split at h
     ·split at h
      ·cases h
      ·rename_i hu
       rw [behP_inr h]; exact unpackP_pre hu
     ·rw [behP_inr h]; exact List.prefix_refl _
theorem stepU_cut (O : Orc) (f : Fr) (p : Nat) (bs : List Nat) : stepU O f ⟨p, bs, false⟩ = .inl (f.out, 10) := by
 unfold stepU
 have : lookP O f ⟨p, bs, false⟩ = (f, 10) := by unfold lookP; rw [if_pos rfl]
 rw [this]
 simp
theorem behP_ne {old o : List Nat} {f2 : Fr} {e : Nat} (h : behP old f2 = .inl (o, e)) : e ≠ 0 ∧ e ≠ 40 := by
 unfold behP at h
 repeat' split at h
 all_goals (first | (cases h; omega) | cases h)
theorem stepU_ne {O : Orc} {f : Fr} {u : Un} {o : List Nat} {e : Nat} (h : stepU O f u = .inl (o, e)) : e ≠ 0 := by
 unfold stepU at h
 split at h
 ·rename_i hh; cases h; exact hh
 ·split at h
  ·cases h
  ·split at h
   ·exact (behP_ne h).1
   ·split at h
    ·exact (behP_ne h).1
    ·split at h
     ·split at h
      ·cases h; omega
      ·exact (behP_ne h).1
     ·exact (behP_ne h).1
theorem run_ok (O : Orc) : ∀ (us : List Un) (f : Fr) (n : Nat) (o : List Nat) (m : Nat), runU O f n us = (o, m, 0) → (∀ u ∈ us, u.wh = true) ∧ m = n + totU us ∧ f.out <+: o
  | [], f, n, o, m, h => by
    simp only [runU] at h
    cases h
    exact ⟨fun u hu => (by cases hu), by simp [totU], List.prefix_refl _⟩
  | u :: us, f, n, o, m, h => by
    simp only [runU] at h
    cases hs : stepU O f u with
    | inl r =>
      rw [hs] at h
      simp only [Prod.mk.injEq] at h
      exact absurd h.2.2 (stepU_ne (o := r.1) (e := r.2) hs)
    | inr f1 =>
      rw [hs] at h
      obtain ⟨h1, h2, h3⟩ := run_ok O us f1 _ o m h
      refine ⟨fun v hv => ?_, by simp only [totU]; omega, (stepU_pre hs).trans h3⟩
      rcases List.mem_cons.1 hv with rfl | hv
      · cases hw : v.wh with
        | true => rfl
        | false =>
          obtain ⟨p, bs, wh⟩ := v
          dsimp only at hw
          rw [hw, stepU_cut] at hs
          cases hs
      · exact h1 v hv
theorem run_cut (O : Orc) : ∀ (pre : List Un) (u : Un) (post : List Un) (f : Fr) (n : Nat) (o : List Nat) (m : Nat), runU O f n (pre ++ u :: post) = (o, m, 0) → ∃ o', runU O f n (pre ++ [⟨u.p, [], false⟩]) = (o', 0, 10) ∧ o' <+: o
  | [], u, post, f, n, o, m, h => by
    refine ⟨f.out, ?_, (run_ok O _ f n o m h).2.2⟩
    simp only [List.nil_append, runU, stepU_cut]
  | v :: pre, u, post, f, n, o, m, h => by
    simp only [List.cons_append, runU] at h ⊢
    cases hs : stepU O f v with
    | inl r =>
      rw [hs] at h
      simp only [Prod.mk.injEq] at h
      exact absurd h.2.2 (stepU_ne (o := r.1) (e := r.2) hs)
    | inr f1 =>
      rw [hs] at h
      exact run_cut O pre u post f1 _ o m h
theorem run_err (O : Orc) : ∀ (us : List Un) (f : Fr) (n : Nat), (runU O f n us).2.2 ≠ 0 → (runU O f n us).2.1 = 0
  | [], f, n, h => by simp [runU] at h
  | u :: us, f, n, h => by
    simp only [runU] at h ⊢
    cases hs : stepU O f u with
    | inl r => rfl
    | inr f1 => rw [hs] at h; exact run_err O us f1 _ h

theorem memP_err (O : Orc) (b : List Nat) (bud : Nat) (h : (memP O b bud).2.2 ≠ 0) : (memP O b bud).2.1 = 0 := run_err O _ _ _ h
theorem memP_behind (O : Orc) (b c : List Nat) (bud : Nat) (h : (memP O b bud).2.2 = 0) : memP O (b ++ c) bud = memP O b bud ∧ (memP O b bud).2.1 ≤ b.length := by
 obtain ⟨o, n, e⟩ : ∃ o n, memP O b bud = (o, n, 0) := ⟨_, _, by rw [← h]⟩
 obtain ⟨h1, h2, -⟩ := run_ok O _ _ _ _ _ e
 refine ⟨by unfold memP; rw [unitsU_app b c h1], ?_⟩
 rw [e]
 have := unitsU_tot b
 show n ≤ _
 omega
theorem memP_cut (O : Orc) (b : List Nat) (bud : Nat) (h : (memP O b bud).2.2 = 0) : 4 ≤ (memP O b bud).2.1 ∧ (memP O b bud).2.1 ≤ b.length ∧ ∀ k, k < (memP O b bud).2.1 → (memP O (b.take k) bud).2 = (0, 10) ∧ (memP O (b.take k) bud).1 <+: (memP O b bud).1 := by
 obtain ⟨o, n, e⟩ : ∃ o n, memP O b bud = (o, n, 0) := ⟨_, _, by rw [← h]⟩
 obtain ⟨h1, h2, -⟩ := run_ok O _ _ _ _ _ e
 have h3 := unitsU_tot b
 have h4 := unitsU_four b h1
 rw [e]
 refine ⟨by show 4 ≤ n; omega, by show n ≤ _; omega, fun k hk => ?_⟩
 have hk' : k < n := hk
 obtain ⟨pre, u, post, e1, e2⟩ := unitsU_cut b k h1 (by omega)
 have e' : runU O (newF bud) 0 (unitsU b) = (o, n, 0) := e
 rw [e1] at e'
 obtain ⟨o', r1, r2⟩ := run_cut O pre u post _ _ _ _ e'
 have : memP O (b.take k) bud = (o', 0, 10) := by unfold memP; rw [e2]; exact r1
 rw [this]
 exact ⟨rfl, r2⟩

def Fr.wb (f : Fr) (B : Nat) : Fr := { f with bud := B }
theorem copyP_bud (f : Fr) (s : Sp) (B : Nat) : copyP (f.wb B) s = (copyP f s).map (fun g => g.wb B) := by
 by_cases h1 : meantD f.r0 f.r1 f.r2 ((s.1 : Int) == 0) s.2.2 < 1
 ·have h1' : meantD (f.wb B).r0 (f.wb B).r1 (f.wb B).r2 ((s.1 : Int) == 0) s.2.2 < 1 := h1
  unfold copyP
  rw [if_pos h1, if_pos h1']; rfl
 ·have h1' : ¬ meantD (f.wb B).r0 (f.wb B).r1 (f.wb B).r2 ((s.1 : Int) == 0) s.2.2 < 1 := h1
  by_cases h2 : (f.win : Int) < meantD f.r0 f.r1 f.r2 ((s.1 : Int) == 0) s.2.2 ∨ (f.out.length : Int) < meantD f.r0 f.r1 f.r2 ((s.1 : Int) == 0) s.2.2
  ·have h2' : ((f.wb B).win : Int) < meantD (f.wb B).r0 (f.wb B).r1 (f.wb B).r2 ((s.1 : Int) == 0) s.2.2 ∨ ((f.wb B).out.length : Int) < meantD (f.wb B).r0 (f.wb B).r1 (f.wb B).r2 ((s.1 : Int) == 0) s.2.2 := h2
   unfold copyP
   rw [if_neg h1, if_neg h1', if_pos h2, if_pos h2']; rfl
  ·have h2' : ¬ (((f.wb B).win : Int) < meantD (f.wb B).r0 (f.wb B).r1 (f.wb B).r2 ((s.1 : Int) == 0) s.2.2 ∨ ((f.wb B).out.length : Int) < meantD (f.wb B).r0 (f.wb B).r1 (f.wb B).r2 ((s.1 : Int) == 0) s.2.2) := h2
   unfold copyP
   rw [if_neg h1, if_neg h1', if_neg h2, if_neg h2']; rfl
theorem copyP_same {f f2 : Fr} {s : Sp} (h : copyP f s = some f2) : f2.bud = f.bud := by
 unfold copyP at h
 split at h
 ·cases h
 ·split at h
  ·cases h
  ·cases h; rfl
theorem stepsP_bud (B : Nat) : ∀ (ss : List Sp) (f : Fr) (lits : List Nat) (en : Nat), stepsP (f.wb B) lits en ss = (stepsP f lits en ss).map (fun g => g.wb B)
  | [], f, lits, en => by
    unfold stepsP
    have e0 : (f.wb B).out = f.out := rfl
    rw [e0]
    by_cases h : (f.out ++ lits).length ≤ en
    · rw [if_pos h, if_pos h]; rfl
    · rw [if_neg h, if_neg h]; rfl
  | s :: ss, f, lits, en => by
    unfold stepsP
    have e : copyP { f.wb B with out := (f.wb B).out ++ lits.take s.1 } s = (copyP { f with out := f.out ++ lits.take s.1 } s).map (fun g => g.wb B) := copyP_bud { f with out := f.out ++ lits.take s.1 } s B
    have e0 : (f.wb B).out = f.out := rfl
    rw [e, e0]
    by_cases h1 : lits.length < s.1
    · rw [if_pos h1, if_pos h1]; rfl
    · rw [if_neg h1, if_neg h1]
      by_cases h2 : (en : Int) - ((f.out ++ lits.take s.1).length : Int) < (s.2.1 : Int)
      · rw [if_pos h2, if_pos h2]; rfl
      · rw [if_neg h2, if_neg h2]
        cases copyP { f with out := f.out ++ lits.take s.1 } s with
        | none => rfl
        | some g => exact stepsP_bud B ss g _ en
theorem stepsP_same : ∀ (ss : List Sp) (f f2 : Fr) (lits : List Nat) (en : Nat), stepsP f lits en ss = some f2 → f2.bud = f.bud
  | [], f, f2, lits, en, h => by
    unfold stepsP at h
    split at h
    · cases h; rfl
    · cases h
  | s :: ss, f, f2, lits, en, h => by
    unfold stepsP at h
    split at h
    · cases h
    · split at h
      · cases h
      · split at h
        · cases h
        · rename_i f3 h3
          rw [stepsP_same ss f3 f2 _ en h, copyP_same h3]
theorem unpackP_bud (O : Orc) (f : Fr) (bs : List Nat) (B : Nat) : unpackP O (f.wb B) bs = (unpackP O f bs).map (fun g => g.wb B) := by
  unfold unpackP
  have e1 : (f.wb B).ws = f.ws := rfl
  have e2 : mostF (f.wb B) = mostF f := rfl
  rw [e1, e2]
  cases O.lit bs f.ws (mostF f) with
  | none => rfl
  | some r =>
    obtain ⟨lits, ws, used⟩ := r
    dsimp only
    have e3 : (f.wb B).t0 = f.t0 := rfl
    have e4 : (f.wb B).t1 = f.t1 := rfl
    have e5 : (f.wb B).t2 = f.t2 := rfl
    rw [e3, e4, e5]
    cases O.seq (bs.drop used) f.t0 f.t1 f.t2 with
    | none => rfl
    | some q =>
      obtain ⟨ss, a, b, c⟩ := q
      exact stepsP_bud B ss { f with ws := ws, t0 := a, t1 := b, t2 := c } lits _
theorem unpackP_same {O : Orc} {f f2 : Fr} {bs : List Nat} (h : unpackP O f bs = some f2) : f2.bud = f.bud := by
 unfold unpackP at h
 split at h
 ·cases h
 ·split at h
  ·cases h
  ·have := stepsP_same _ _ _ _ _ h
   exact this
def mapR (B : Nat) : (List Nat × Nat) ⊕ Fr → (List Nat × Nat) ⊕ Fr
 | .inl r => .inl r
 | .inr f => .inr (f.wb B)
theorem behP_bud (old : List Nat) (f : Fr) (B : Nat) : behP old (f.wb B) = mapR B (behP old f) := by
 unfold behP
 have e1 : (f.wb B).out = f.out := rfl
 have e2 : (f.wb B).told = f.told := rfl
 have e3 : (f.wb B).siz = f.siz := rfl
 have e4 : (f.wb B).last = f.last := rfl
 rw [e1, e2, e3, e4]
 by_cases h1 : 16777216 < f.out.length
 ·rw [if_pos h1, if_pos h1]; rfl
 ·rw [if_neg h1, if_neg h1]
  by_cases h2 : f.told = true ∧ f.siz < f.out.length
  ·rw [if_pos h2, if_pos h2]; rfl
  ·rw [if_neg h2, if_neg h2]
   by_cases h3 : f.told = true ∧ f.last = true ∧ f.out.length < f.siz
   ·rw [if_pos h3, if_pos h3]; rfl
   ·rw [if_neg h3, if_neg h3]; rfl
theorem look_bud (O : Orc) (f : Fr) (u : Un) (B : Nat) (hB : f.bud ≤ B) (h : (lookP O f u).2 ≠ 40) : lookP O (f.wb B) u = ((lookP O f u).1.wb B, (lookP O f u).2) ∧ (lookP O f u).1.bud = f.bud := by
 unfold lookP at h ⊢
 have e1 : (f.wb B).fl = f.fl := rfl
 have e2 : mostF (f.wb B) = mostF f := rfl
 have e3 : (f.wb B).bud = B := rfl
 have e4 : (f.wb B).out = f.out := rfl
 rw [e1, e2, e3, e4]
 by_cases h1 : u.wh = false
 ·rw [if_pos h1, if_pos h1]; exact ⟨rfl, rfl⟩
 rw [if_neg h1] at h
 rw [if_neg h1, if_neg h1]
 ·by_cases h2 : u.p = 0
  ·rw [if_pos h2, if_pos h2]; exact ⟨rfl, rfl⟩
  rw [if_neg h2] at h
  rw [if_neg h2, if_neg h2]
  ·by_cases h3 : u.p = 3
   ·rw [if_pos h3, if_pos h3]; exact ⟨rfl, rfl⟩
   rw [if_neg h3] at h
   rw [if_neg h3, if_neg h3]
   ·by_cases h4 : u.p = 4
    ·rw [if_pos h4] at h
     rw [if_pos h4, if_pos h4]
     dsimp only at h ⊢
     by_cases hd : hdDic f.fl u.bs ≠ 0
     ·rw [if_pos hd, if_pos hd]; exact ⟨rfl, rfl⟩
     ·rw [if_neg hd] at h
      rw [if_neg hd, if_neg hd]
      have hw : ¬ f.bud < hdWin f.fl u.bs := fun hw => h (if_pos hw)
      rw [if_neg hw, if_neg (by omega)]
      exact ⟨rfl, rfl⟩
    ·rw [if_neg h4, if_neg h4]
     by_cases h5 : u.p = 5
     ·rw [if_pos h5, if_pos h5]; exact ⟨rfl, rfl⟩
     ·rw [if_neg h5, if_neg h5]
      by_cases h6 : u.p = 7
      ·rw [if_pos h6, if_pos h6]; exact ⟨rfl, rfl⟩
      ·rw [if_neg h6, if_neg h6]; exact ⟨rfl, rfl⟩
theorem stepU_bud (O : Orc) (f : Fr) (u : Un) (B : Nat) (hB : f.bud ≤ B) (h : ∀ o, stepU O f u ≠ .inl (o, 40)) : stepU O (f.wb B) u = mapR B (stepU O f u) ∧ ∀ f1, stepU O f u = .inr f1 → f1.bud = f.bud := by
 have hl : (lookP O f u).2 ≠ 40 := fun e => by
  refine h (lookP O f u).1.out ?_
  unfold stepU
  rw [if_pos (by omega), e]
 obtain ⟨l1, l2⟩ := look_bud O f u B hB hl
 have e1 : (f.wb B).kind = f.kind := rfl
 have e2 : (f.wb B).out = f.out := rfl
 have e3 : (f.wb B).bsz = f.bsz := rfl
 have key : stepU O (f.wb B) u = mapR B (stepU O f u) := by
  unfold stepU
  rw [l1, e1, e2, e3]
  dsimp only
  by_cases h1 : (lookP O f u).2 ≠ 0
  ·rw [if_pos h1, if_pos h1]; rfl
  ·rw [if_neg h1, if_neg h1]
   by_cases h2 : u.p ≠ 6
   ·rw [if_pos h2, if_pos h2]; rfl
   ·rw [if_neg h2, if_neg h2]
    by_cases h3 : f.kind = 0
    ·rw [if_pos h3, if_pos h3]; exact behP_bud f.out { f with out := f.out ++ u.bs } B
    ·rw [if_neg h3, if_neg h3]
     by_cases h4 : f.kind = 1
     ·rw [if_pos h4, if_pos h4]; exact behP_bud f.out { f with out := f.out ++ List.replicate f.bsz (u.bs[0]?.getD 0) } B
     ·rw [if_neg h4, if_neg h4]
      by_cases h5 : f.kind = 2
      ·rw [if_pos h5, if_pos h5, unpackP_bud]
       cases unpackP O f u.bs with
       | none => rfl
       | some g => exact behP_bud f.out g B
      ·rw [if_neg h5, if_neg h5]; exact behP_bud f.out f B
 refine ⟨key, fun f1 hf => ?_⟩
 unfold stepU at hf
 split at hf
 ·cases hf
 ·split at hf
  ·cases hf; exact l2
  ·split at hf
   ·rw [behP_inr hf]
   ·split at hf
    ·rw [behP_inr hf]
    ·split at hf
     ·split at hf
      ·cases hf
      ·rename_i g hg
       rw [behP_inr hf]
       exact unpackP_same hg
     ·rw [behP_inr hf]
theorem run_bud (O : Orc) (B : Nat) : ∀ (us : List Un) (f : Fr) (n : Nat), f.bud ≤ B → (runU O f n us).2.2 ≠ 40 → runU O (f.wb B) n us = runU O f n us
  | [], f, n, _, _ => rfl
  | u :: us, f, n, hB, h => by
    simp only [runU] at h ⊢
    have hne : ∀ o, stepU O f u ≠ .inl (o, 40) := fun o e => by rw [e] at h; exact h rfl
    obtain ⟨k1, k2⟩ := stepU_bud O f u B hB hne
    rw [k1]
    cases hs : stepU O f u with
    | inl r => rfl
    | inr f1 =>
      rw [hs] at h
      exact run_bud O B us f1 _ (by rw [k2 f1 hs]; exact hB) h
theorem memP_room (O : Orc) (b : List Nat) (bud B : Nat) (hB : bud ≤ B) (h : (memP O b bud).2.2 ≠ 40) : memP O b B = memP O b bud := run_bud O B (unitsU b) (newF bud) 0 hB h

theorem stepU_40 {O : Orc} {f : Fr} {u : Un} {o : List Nat} (h : stepU O f u = .inl (o, 40)) : u.p = 4 := by
 unfold stepU at h
 split at h
 ·simp only [Sum.inl.injEq, Prod.mk.injEq] at h
  have h2 := h.2
  unfold lookP at h2
  by_cases hp : u.p = 4
  ·exact hp
  ·exfalso
   rw [if_neg hp] at h2
   repeat' split at h2
   all_goals (first | omega | (dsimp only at h2; split at h2 <;> omega))
 ·split at h
  ·cases h
  ·exfalso
   split at h
   ·exact (behP_ne h).2 rfl
   ·split at h
    ·exact (behP_ne h).2 rfl
    ·split at h
     ·split at h
      ·cases h
      ·exact (behP_ne h).2 rfl
     ·exact (behP_ne h).2 rfl
theorem run_no40 (O : Orc) : ∀ (us : List Un) (f : Fr) (n : Nat), (∀ u ∈ us, u.p ≠ 4) → (runU O f n us).2.2 ≠ 40
  | [], f, n, _ => by simp [runU]
  | u :: us, f, n, h => by
    simp only [runU]
    cases hs : stepU O f u with
    | inl r =>
      intro e
      exact h u List.mem_cons_self (stepU_40 (o := r.1) (by rw [hs]; exact congrArg Sum.inl (Prod.ext rfl e)))
    | inr f1 => exact run_no40 O us f1 _ (fun v hv => h v (List.mem_cons_of_mem _ hv))
theorem cutU_no {p s : Nat} {rest : List Nat} {K : List Nat → List Nat → List Un} (hp : p ≠ 4) (h : ∀ a b, ∀ u ∈ K a b, u.p ≠ 4) : ∀ u ∈ cutU p s rest K, u.p ≠ 4 := by
 intro u hu
 by_cases hl : rest.length < s
 ·rw [cutU_lt hl] at hu
  rw [List.mem_singleton.1 hu]; exact hp
 ·rw [cutU_ge (by omega)] at hu
  rcases List.mem_cons.1 hu with rfl | hu
  ·exact hp
  ·exact h _ _ u hu
theorem blocksU_no (s : Bool) : ∀ (f : Nat) (rest : List Nat), ∀ u ∈ blocksU s f rest, u.p ≠ 4
  | 0, rest => fun u hu => by simp [blocksU] at hu
  | f + 1, rest => by
    unfold blocksU
    refine cutU_no (by omega) (fun a b => cutU_no (by omega) (fun _ c => ?_))
    split
    · unfold sumU
      split
      · exact cutU_no (by omega) (fun _ _ u hu => by cases hu)
      · intro u hu; cases hu
    · exact blocksU_no s f _
theorem look3 (O : Orc) (f : Fr) (bs : List Nat) : lookP O f ⟨3, bs, true⟩ = ({ f with fl := bs[0]?.getD 0 }, if flagB (bs[0]?.getD 0) 3 then 11 else 0) := rfl
theorem look4 (O : Orc) (f : Fr) (bs : List Nat) : lookP O f ⟨4, bs, true⟩ = ({ f with win := hdWin f.fl bs, dic := hdDic f.fl bs, siz := hdSiz f.fl bs, told := hdTold f.fl bs }, if hdDic f.fl bs ≠ 0 then 12 else if f.bud < hdWin f.fl bs then 40 else 0) := rfl
theorem memP_over (O : Orc) (b : List Nat) (bud : Nat) (h : (memP O b bud).2.2 = 40) : (memP O b bud).1 = [] ∧ ((winP O b).2 = 40 ∨ ((winP O b).2 = 0 ∧ bud < (winP O b).1)) := by
  unfold memP winP unitsU at *
  by_cases a1 : 4 ≤ b.length
  · rw [cutU_ge a1] at h ⊢
    simp only [runU, winW] at h ⊢
    by_cases hs : skipB (numN (b.take 4)) = true
    · rw [if_pos hs] at h
      exfalso
      cases hc : stepU O (newF bud) ⟨0, b.take 4, true⟩ with
      | inl r =>
        rw [hc] at h
        exact absurd (stepU_40 (o := r.1) (by rw [hc]; exact congrArg Sum.inl (Prod.ext rfl h))) (by simp)
      | inr f1 =>
        rw [hc] at h
        exact run_no40 O _ f1 _ (cutU_no (by omega) (fun _ _ => cutU_no (by omega) (fun _ _ u hu => by cases hu))) h
    · by_cases hf : numN (b.take 4) = 4247762216
      · rw [if_neg hs, if_pos hf] at h
        rw [if_neg hs, if_pos hf]
        have k0 : ∀ B, lookP O (newF B) ⟨0, b.take 4, true⟩ = (newF B, 0) := fun B => by
          unfold lookP
          simp [hf]
        have s0 : stepU O (newF bud) ⟨0, b.take 4, true⟩ = .inr (newF bud) := by
          unfold stepU
          rw [k0]
          simp
        rw [s0] at h ⊢
        rw [k0]
        dsimp only at h ⊢
        rw [if_neg (by simp), if_neg (by simp)]
        unfold frameU at h ⊢
        by_cases b1 : 1 ≤ (b.drop 4).length
        · rw [cutU_ge b1] at h ⊢
          simp only [runU, winW] at h ⊢
          generalize hd : ((b.drop 4).take 1)[0]?.getD 0 = d at *
          by_cases hr : flagB d 3 = true
          · exfalso
            have s1 : stepU O (newF bud) ⟨3, (b.drop 4).take 1, true⟩ = .inl ((newF bud).out, 11) := by
              unfold stepU
              have : lookP O (newF bud) ⟨3, (b.drop 4).take 1, true⟩ = ({ newF bud with fl := d }, 11) := by
                rw [look3, hd, if_pos hr]
              rw [this]
              rfl
            rw [s1] at h
            cases h
          · have k1 : ∀ B, lookP O (newF B) ⟨3, (b.drop 4).take 1, true⟩ = ({ newF B with fl := d }, 0) := fun B => by
              rw [look3, hd, if_neg hr]
            have s1 : stepU O (newF bud) ⟨3, (b.drop 4).take 1, true⟩ = .inr { newF bud with fl := d } := by
              unfold stepU
              rw [k1]
              simp
            rw [s1] at h ⊢
            rw [k1]
            dsimp only at h ⊢
            rw [if_neg (by simp), if_neg (by simp)]
            by_cases c1 : hdLen d ≤ ((b.drop 4).drop 1).length
            · rw [cutU_ge c1] at h ⊢
              simp only [runU, winW] at h ⊢
              generalize hu : ((b.drop 4).drop 1).take (hdLen d) = hb at *
              have k2 : ∀ B, lookP O { newF B with fl := d } ⟨4, hb, true⟩ = ({ newF B with fl := d, win := hdWin d hb, dic := hdDic d hb, siz := hdSiz d hb, told := hdTold d hb }, if hdDic d hb ≠ 0 then 12 else if B < hdWin d hb then 40 else 0) := fun B => look4 O _ hb
              by_cases hz : hdDic d hb ≠ 0
              · exfalso
                have s2 : stepU O { newF bud with fl := d } ⟨4, hb, true⟩ = .inl ([], 12) := by
                  unfold stepU
                  rw [k2, if_pos hz]
                  rfl
                rw [s2] at h
                cases h
              · by_cases hw : bud < hdWin d hb
                · have s2 : stepU O { newF bud with fl := d } ⟨4, hb, true⟩ = .inl ([], 40) := by
                    unfold stepU
                    rw [k2, if_neg hz, if_pos hw]
                    rfl
                  rw [s2, k2, if_neg hz]
                  refine ⟨rfl, ?_⟩
                  by_cases hm : 16777216 < hdWin d hb
                  · rw [if_pos hm]; left; rfl
                  · rw [if_neg hm]; right
                    rw [if_neg (by simp), if_pos (by simp)]
                    exact ⟨rfl, hw⟩
                · exfalso
                  have s2 : stepU O { newF bud with fl := d } ⟨4, hb, true⟩ = .inr { newF bud with fl := d, win := hdWin d hb, dic := hdDic d hb, siz := hdSiz d hb, told := hdTold d hb } := by
                    unfold stepU
                    rw [k2, if_neg hz, if_neg hw]
                    rfl
                  rw [s2] at h
                  exact run_no40 O _ _ _ (blocksU_no _ _ _) h
            · exfalso
              rw [cutU_lt (by omega)] at h
              simp only [runU, stepU_cut] at h
              cases h
        · exfalso
          rw [cutU_lt (by omega)] at h
          simp only [runU, stepU_cut] at h
          cases h
      · exfalso
        rw [if_neg hs, if_neg hf] at h
        cases hc : stepU O (newF bud) ⟨0, b.take 4, true⟩ with
        | inl r =>
          rw [hc] at h
          exact absurd (stepU_40 (o := r.1) (by rw [hc]; exact congrArg Sum.inl (Prod.ext rfl h))) (by simp)
        | inr f1 =>
          rw [hc] at h
          simp [runU] at h
  · exfalso
    rw [cutU_lt (by omega)] at h
    simp only [runU, stepU_cut] at h
    cases h
end Go.Proofs.YtnjilcokkhodmaaGreatDoor

namespace Go.Proofs.YtnjilcokkhodmaaGreatDoor
open Go.RowKit Go.Shelf
set_option linter.unusedVariables false

/-- A unit, behind flags, a kind and a size. -/
structure UnOk (fl kd sz : Nat) (u : Un) : Prop where
 lt : ∀ j : Nat, u.bs[j]?.getD 0 < 256
 p : u.p < 8
 n0 : u.wh = true → u.p = 0 → u.bs.length = 4
 n3 : u.wh = true → u.p = 3 → u.bs.length = 1
 n4 : u.wh = true → u.p = 4 → u.bs.length = hdLen fl
 n5 : u.wh = true → u.p = 5 → u.bs.length = 3
 n6 : u.wh = true → u.p = 6 → u.bs.length = if kd = 1 then 1 else sz
 n7 : u.wh = true → u.p = 7 → u.bs.length = 4
def UsOk : Nat → Nat → Nat → List Un → Prop
 | _, _, _, [] => True
 | fl, kd, sz, u :: us => UnOk fl kd sz u ∧ UsOk (if u.wh = true ∧ u.p = 3 then u.bs[0]?.getD 0 else fl) (if u.wh = true ∧ u.p = 5 then blKind (numN u.bs) else kd) (if u.wh = true ∧ u.p = 5 then blSize (numN u.bs) else sz) us
theorem unOk_short (fl kd sz p : Nat) (hp : p < 8) : UnOk fl kd sz ⟨p, [], false⟩ :=
 ⟨fun j => by simp, hp, fun h => (by cases h), fun h => (by cases h), fun h => (by cases h), fun h => (by cases h), fun h => (by cases h), fun h => (by cases h)⟩
theorem usOk_cut {fl kd sz : Nat} (p s : Nat) {rest : List Nat} {K : List Nat → List Nat → List Un} (hp : p < 8) (hl : ∀ j : Nat, rest[j]?.getD 0 < 256)
  (hs : (p = 0 → s = 4) ∧ (p = 3 → s = 1) ∧ (p = 4 → s = hdLen fl) ∧ (p = 5 → s = 3) ∧ (p = 6 → s = if kd = 1 then 1 else sz) ∧ (p = 7 → s = 4))
  (hK : ∀ b r fl' kd' sz', b = rest.take s → r = rest.drop s → (∀ j : Nat, b[j]?.getD 0 < 256) → (∀ j : Nat, r[j]?.getD 0 < 256) → fl' = (if p = 3 then b[0]?.getD 0 else fl) → kd' = (if p = 5 then blKind (numN b) else kd) → sz' = (if p = 5 then blSize (numN b) else sz) → UsOk fl' kd' sz' (K b r)) : UsOk fl kd sz (cutU p s rest K) := by
 by_cases h : rest.length < s
 ·rw [cutU_lt h]
  exact ⟨unOk_short _ _ _ _ hp, trivial⟩
 ·rw [cutU_ge (by omega)]
  have hlen : (rest.take s).length = s := by rw [List.length_take]; omega
  obtain ⟨s0, s3, s4, s5, s6, s7⟩ := hs
  refine ⟨⟨lt_take hl s, hp, fun _ e => ?_, fun _ e => ?_, fun _ e => ?_, fun _ e => ?_, fun _ e => ?_, fun _ e => ?_⟩, ?_⟩
  ·exact hlen.trans (s0 e)
  ·exact hlen.trans (s3 e)
  ·exact hlen.trans (s4 e)
  ·exact hlen.trans (s5 e)
  ·exact hlen.trans (s6 e)
  ·exact hlen.trans (s7 e)
  ·exact hK _ _ _ _ _ rfl rfl (lt_take hl s) (lt_drop hl s) (by simp) (by simp) (by simp)
theorem usOk_nil {fl kd sz : Nat} : UsOk fl kd sz [] := trivial
theorem usOk_sum {fl kd sz : Nat} {s : Bool} {rest : List Nat} (hl : ∀ j : Nat, rest[j]?.getD 0 < 256) : UsOk fl kd sz (sumU s rest) := by
 unfold sumU
 cases s with
 | false => exact usOk_nil
 | true => exact usOk_cut 7 4 (by omega) hl ⟨by omega, by omega, by omega, by omega, by omega, fun _ => rfl⟩ (fun _ _ _ _ _ _ _ _ _ _ _ _ => usOk_nil)
theorem usOk_blocks (s : Bool) : ∀ (f fl kd sz : Nat) (rest : List Nat), (∀ j : Nat, rest[j]?.getD 0 < 256) → UsOk fl kd sz (blocksU s f rest)
  | 0, _, _, _, _, _ => usOk_nil
  | f + 1, fl, kd, sz, rest, hl => by
    unfold blocksU
    refine usOk_cut 5 3 (by omega) hl ⟨by omega, by omega, by omega, fun _ => rfl, by omega, by omega⟩ (fun b r f1 k1 s1 _ _ hb hr e1 e2 e3 => ?_)
    rw [if_pos rfl] at e2 e3
    refine usOk_cut 6 (blBeh (numN b)) (by omega) hr ⟨by omega, by omega, by omega, by omega, fun _ => by rw [e2, e3]; rfl, by omega⟩ (fun b2 r2 f2 k2 s2 _ _ hb2 hr2 _ _ _ => ?_)
    split
    · exact usOk_sum hr2
    · exact usOk_blocks s f _ _ _ _ hr2
theorem usOk_skip {fl kd sz : Nat} {r : List Nat} (hr : ∀ j : Nat, r[j]?.getD 0 < 256) : UsOk fl kd sz (skipU r) := by
 unfold skipU
 refine usOk_cut 1 4 (by omega) hr ⟨by omega, by omega, by omega, by omega, by omega, by omega⟩ (fun b r f1 k1 s1 _ _ hb hr _ _ _ => ?_)
 exact usOk_cut 2 (numN b) (by omega) hr ⟨by omega, by omega, by omega, by omega, by omega, by omega⟩ (fun _ _ _ _ _ _ _ _ _ _ _ _ => usOk_nil)
theorem usOk_frame {fl kd sz : Nat} {r : List Nat} (hr : ∀ j : Nat, r[j]?.getD 0 < 256) : UsOk fl kd sz (frameU r) := by
 unfold frameU
 refine usOk_cut 3 1 (by omega) hr ⟨by omega, fun _ => rfl, by omega, by omega, by omega, by omega⟩ (fun b2 r2 f1 k1 s1 _ _ hb2 hr2 e1 _ _ => ?_)
 rw [if_pos rfl] at e1
 exact usOk_cut 4 (hdLen (b2[0]?.getD 0)) (by omega) hr2 ⟨by omega, by omega, fun _ => by rw [e1], by omega, by omega, by omega⟩ (fun _ _ _ _ _ _ _ _ hr3 _ _ _ => usOk_blocks _ _ _ _ _ _ hr3)
theorem usOk_units (fl kd sz : Nat) (b : List Nat) (hl : ∀ j : Nat, b[j]?.getD 0 < 256) : UsOk fl kd sz (unitsU b) := by
 unfold unitsU
 refine usOk_cut 0 4 (by omega) hl ⟨fun _ => rfl, by omega, by omega, by omega, by omega, by omega⟩ (fun f r _ _ _ _ _ hf hr _ _ _ => ?_)
 split
 ·exact usOk_skip hr
 ·split
  ·exact usOk_frame hr
  ·exact usOk_nil
end Go.Proofs.YtnjilcokkhodmaaGreatDoor
