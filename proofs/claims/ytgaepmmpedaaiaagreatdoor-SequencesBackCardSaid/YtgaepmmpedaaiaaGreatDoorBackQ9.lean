/-
  The kinds of values as plain numbers; the code of a value, found by halving.
  A coding as it lies: its numbers, codeOf, read and put.
  Small functions on codings: codeOf, read, put; values of a step and back.
  setNext: each state is given its Bits and its Base.
  Table of counts: the cells of all states, or ErrCounts.
  Small functions on codings: put; the values of a step, and a step of values; logs and shifts.
-/
import Derived.Deep.RegionLaw
import Derived.Test.YtgaepmmpedaaiaaGreatDoorBackQ4
import Derived.Test.YtgaepmmpedaaiaaGreatDoorBackQ8
namespace Go.Proofs.YtgaepmmpedaaiaaGreatDoor
open Go.RowKit Go.Shelf
set_option linter.unusedVariables false

/-- A kind of values: the first value, extra bits by code, the most log, the log and the counts of the table that is not told. -/
structure Kd where
  first : Nat
  es : List Nat
  ml : Nat
  l : Nat
  cs : List Int
def kdL : Kd := ⟨0, eL, 9, 6, cL⟩
def kdB : Kd := ⟨1, eB, 8, 5, cB⟩
def kdM : Kd := ⟨3, eM, 9, 6, cM⟩
def Kd.codes (K : Kd) : Nat := K.es.length
def Kd.lsts (K : Kd) : List Nat := leastsF K.first K.es
def Kd.lst (K : Kd) (c : Nat) : Nat := K.lsts[c]?.getD 0
def Kd.ext (K : Kd) (c : Nat) : Nat := K.es[c]?.getD 0
/-- What is true of the three kinds. -/
structure KOk (K : Kd) : Prop where
  len : K.lsts.length = K.codes
  le : K.codes ≤ 53
  pos : 0 < K.codes
  zero : K.lst 0 = K.first
  lt : ∀ c, c < K.codes → K.lst c < 4294967296 ∧ K.ext c < 32
  next : ∀ c, c + 1 < K.codes → K.lst (c + 1) = K.lst c + 2 ^ K.ext c
  ml5 : 5 ≤ K.ml
  ml9 : K.ml ≤ 9
theorem kok_check (K : Kd) (h : (decide (K.lsts.length = K.codes) && decide (K.codes ≤ 53) && decide (0 < K.codes) && decide (K.lst 0 = K.first) && decide (5 ≤ K.ml) && decide (K.ml ≤ 9) &&
    (List.range K.codes).all (fun c => decide (K.lst c < 4294967296 ∧ K.ext c < 32)) && (List.range K.codes).all (fun c => decide (c + 1 < K.codes → K.lst (c + 1) = K.lst c + 2 ^ K.ext c))) = true) : KOk K := by
  simp only [Bool.and_eq_true, decide_eq_true_eq, List.all_eq_true, List.mem_range] at h
  obtain ⟨⟨⟨⟨⟨⟨⟨h1, h2⟩, h3⟩, h4⟩, h5⟩, h6⟩, h7⟩, h8⟩ := h
  exact ⟨h1, h2, h3, h4, fun c hc => h7 c hc, fun c hc => h8 c (by omega) hc, h5, h6⟩
theorem kokL : KOk kdL := kok_check _ (by kernel_rfl)
theorem kokB : KOk kdB := kok_check _ (by kernel_rfl)
theorem kokM : KOk kdM := kok_check _ (by kernel_rfl)
theorem KOk.rise {K : Kd} (h : KOk K) : ∀ (d c : Nat), c + d < K.codes → K.lst c ≤ K.lst (c + d)
  | 0, _, _ => Nat.le_refl _
  | d + 1, c, hc => by
    have h1 := h.rise d c (by omega)
    have h2 := h.next (c + d) (by omega)
    rw [show c + (d + 1) = c + d + 1 from by omega, h2]
    exact Nat.le_trans h1 (Nat.le_add_right _ _)
/-- A code that tells a value. -/
def Kd.Tells (K : Kd) (x c : Nat) : Prop := c < K.codes ∧ K.lst c ≤ x ∧ (c + 1 = K.codes ∨ x < K.lst (c + 1))
/-- Up to here values are told. -/
def Kd.top (K : Kd) : Nat := K.lst (K.codes - 1) + 2 ^ K.ext (K.codes - 1)
theorem topL : kdL.top = 131072 := by kernel_rfl
theorem topB : kdB.top = 4294967296 := by kernel_rfl
theorem topM : kdM.top = 131075 := by kernel_rfl
theorem Kd.Tells.lt {K : Kd} {x c : Nat} (h : K.Tells x c) (hK : KOk K) (hx : x < K.top) : x - K.lst c < 2 ^ K.ext c := by
  obtain ⟨h1, h2, h3⟩ := h
  rcases h3 with h3 | h3
  · have e : K.codes - 1 = c := by omega
    unfold Kd.top at hx
    rw [e] at hx
    omega
  · by_cases e : c + 1 < K.codes
    · have := hK.next c e
      omega
    · have e : K.codes - 1 = c := by omega
      unfold Kd.top at hx
      rw [e] at hx
      omega

/-- Numbers of 32 bits as they lie. -/
def Rise (w : World) (g off : Nat) (xs : List Nat) : Prop := ∀ j, j < xs.length → w.cell? ⟨g, off + j, none⟩ = some (.int .u32 ((xs[j]?.getD 0 : Nat) : Int))

set_option maxHeartbeats 1000000 in
theorem lastUpTo_any (g off cap : Nat) (xs : List Nat) (x : Nat) (w : World) (h : Rise w g off xs) (hx : x < 4294967296) (hl : xs.length ≤ 53) (hp : 0 < xs.length) (hlt : ∀ j : Nat, xs[j]?.getD 0 < 4294967296) (h0 : xs[0]?.getD 0 ≤ x) :
    Calls Tryz.prog 91 #[.slice (some ⟨g, off, none⟩) xs.length cap, .int .u32 (x : Int)] w fun e w' => ∃ c, e = .returned (.int .i64 ((c : Nat) : Int)) ∧ w' = w ∧ c < xs.length ∧ xs[c]?.getD 0 ≤ x ∧ (c + 1 = xs.length ∨ x < xs[c + 1]?.getD 0) := by
  obtain ⟨n, hn⟩ : ∃ n, n = xs.length := ⟨_, rfl⟩
  have HR := (show Hid (Rise w g off xs ∧ n = xs.length ∧ (∀ j : Nat, xs[j]?.getD 0 < 4294967296) ∧ xs[0]?.getD 0 ≤ x) from ⟨h, hn, hlt, h0⟩)
  rw [← hn] at hl hp ⊢
  have hnI : (n : Int) ≤ 53 := by omega
  have hxI : (x : Int) < 4294967296 := by omega
  clear h hn hlt h0
  go_enter Tryz.func91, Tryz.ntmps91
  go_wp2_with fail
  go_loopw [5, 6] (fun v5 v6 wr => ∃ f t : Nat, v5 = .int .i64 (f : Int) ∧ v6 = .int .i64 (t : Int) ∧ f < t ∧ t ≤ n ∧ w = wr ∧ Hid (xs[f]?.getD 0 ≤ x ∧ (t = n ∨ x < xs[t]?.getD 0))) (fun v5 v6 _ => (intOf v6).toNat - (intOf v5).toNat)
  case atStart => exact ⟨0, n, rfl, rfl, hp, Nat.le_refl _, rfl, HR.out.2.2.2, .inl rfl⟩
  case round =>
    obtain ⟨f, t, rfl, rfl, h1, h2, rfl, HC⟩ := hrel
    have hftI : (f : Int) < (t : Int) := by omega
    have htI : (t : Int) ≤ 53 := by omega
    obtain ⟨d, hd⟩ : ∃ d, d = t - f := ⟨_, rfl⟩
    have hdI : (t : Int) - (f : Int) = (d : Int) := by omega
    by_cases hlt : 1 < d
    · have hltI : (1 : Int) < (d : Int) := by omega
      obtain ⟨q, hq⟩ : ∃ q, q = d / 2 := ⟨_, rfl⟩
      have hqI : (d : Int).tdiv 2 = (q : Int) := by rw [Int.tdiv_eq_ediv_of_nonneg (by omega)]; omega
      have hqI2 : (d : Int) / 2 = (q : Int) := by omega
      obtain ⟨m, hm⟩ : ∃ m, m = f + q := ⟨_, rfl⟩
      have hmI : (f : Int) + (q : Int) = (m : Int) := by omega
      have hmn : m < n := by omega
      have hmnI : (m : Int) < (n : Int) := by omega
      have c1 := HR.out.1 m (by rw [← HR.out.2.1]; exact hmn)
      have hy := HR.out.2.2.1 m
      obtain ⟨y, hy2⟩ : ∃ y, y = xs[m]?.getD 0 := ⟨_, rfl⟩
      rw [← hy2] at c1 hy
      have HY := hid hy2
      have HM := (show Hid (f < m ∧ m < t) from ⟨by omega, by omega⟩)
      have hyI : (y : Int) < 4294967296 := by omega
      clear hd hq hm hy2 hy
      by_cases hc : y ≤ x
      · have hcI : decide ((y : Int) ≤ (x : Int)) = true := decide_eq_true (by omega)
        have hcN : decide (y ≤ x) = true := decide_eq_true hc
        go_wp2_with fail
        go_roundw
        case rel => exact ⟨m, t, rfl, rfl, HM.out.2, h2, trivial, by rw [← HY.out]; exact hc, HC.out.2⟩
        case measure => have := HM.out; simp [intOf]; omega
      · have hcI : decide ((y : Int) ≤ (x : Int)) = false := decide_eq_false (by omega)
        have hcN : decide (y ≤ x) = false := decide_eq_false hc
        go_wp2_with fail
        go_roundw
        case rel => exact ⟨f, m, rfl, rfl, HM.out.1, by have := HM.out; omega, trivial, HC.out.1, .inr (by rw [← HY.out]; omega)⟩
        case measure => have := HM.out; simp [intOf]; omega
    · have hltI : ¬ (1 : Int) < (d : Int) := by omega
      have e1 : t = f + 1 := by omega
      have HF := (show Hid (f < n ∧ xs[f]?.getD 0 ≤ x ∧ (f + 1 = n ∨ x < xs[f + 1]?.getD 0)) from ⟨by omega, HC.out.1, by rw [← e1]; exact HC.out.2⟩)
      clear HC e1 hd
      go_wp2_with fail
      go_ret
      exact ⟨f, rfl, rfl, HF.out⟩
end Go.Proofs.YtgaepmmpedaaiaaGreatDoor

namespace Go.Proofs.YtgaepmmpedaaiaaGreatDoor
open Go.RowKit Go.Shelf
set_option linter.unusedVariables false

/-- At offset o of block b stands a coding, its counts in block gc. -/
structure Coding (w : World) (b o gc : Nat) (K : Kd) : Prop where
  codes : w.cell? ⟨b, o, none⟩ = some (.int .i64 (K.codes : Int))
  least : ∀ j, j < K.codes → w.cell? ⟨b, o + 1 + j, none⟩ = some (.int .u32 ((K.lst j : Nat) : Int))
  extra : ∀ j, j < K.codes → w.cell? ⟨b, o + 54 + j, none⟩ = some (.int .u8 ((K.ext j : Nat) : Int))
  ml : w.cell? ⟨b, o + 107, none⟩ = some (.int .i64 (K.ml : Int))
  lg : w.cell? ⟨b, o + 108, none⟩ = some (.int .i64 (K.l : Int))
  cn : w.cell? ⟨b, o + 109, none⟩ = some (.slice (some ⟨gc, 0, none⟩) K.cs.length K.cs.length)
  row : RowI w .i16 (some ⟨gc, 0, none⟩) K.cs.length gc 0 K.cs
  lt : b < w.heap.size
  gt : gc < w.heap.size
  ok : KOk K
theorem Coding.keep {w w' : World} {S : Nat → Prop} {b o gc : Nat} {K : Kd} (h : Coding w b o gc K) (hk : Keep S w w') (h1 : ¬ S b) (h2 : ¬ S gc) : Coding w' b o gc K := by
  have e := hk.block b h.lt h1
  exact ⟨(World.cell?_of_block e).trans h.codes, fun j hj => (World.cell?_of_block e).trans (h.least j hj), fun j hj => (World.cell?_of_block e).trans (h.extra j hj), (World.cell?_of_block e).trans h.ml, (World.cell?_of_block e).trans h.lg, (World.cell?_of_block e).trans h.cn,
    h.row.keep hk (fun _ => h2), Nat.lt_of_lt_of_le h.lt hk.size, Nat.lt_of_lt_of_le h.gt hk.size, h.ok⟩

theorem pad_length (n : Nat) (l : List Nat) (h : l.length ≤ n) : (pad n l).length = n := by simp [pad]; omega
theorem pad_at (n : Nat) (l : List Nat) (j : Nat) (h : j < l.length) : (pad n l)[j]? = some (l[j]?.getD 0) := by
  unfold pad
  rw [List.getElem?_append_left h, List.getElem?_eq_getElem h]
  rfl
theorem codL_length (K : Kd) (hK : KOk K) (v : Value) : (codL K.first K.es K.ml K.l v).length = 110 := by
  have h1 := pad_length 53 (leastsF K.first K.es) (by have := hK.len; have := hK.le; unfold Kd.lsts at *; omega)
  have h2 := pad_length 53 K.es hK.le
  simp [codL, h1, h2]
/-- A coding's cells, where the list of all lies at an offset. -/
theorem coding_of {w : World} {b o gc : Nat} {K : Kd} (hK : KOk K) {A : List Value} (hb : w.heap[b]? = some (.cells A.toArray 58 (0, 0))) (v : Value) (hv : v = .slice (some ⟨gc, 0, none⟩) K.cs.length K.cs.length)
    (hA : ∀ j, j < 110 → A[o + j]? = (codL K.first K.es K.ml K.l v)[j]?) (hg : w.heap[gc]? = some (.cells (i16c K.cs).toArray 89 (0, 0))) : Coding w b o gc K := by
  have hl1 := pad_length 53 (leastsF K.first K.es) (by have := hK.len; have := hK.le; unfold Kd.lsts at *; omega)
  have hl2 := pad_length 53 K.es hK.le
  have cell : ∀ j, j < 110 → w.cell? ⟨b, o + j, none⟩ = (codL K.first K.es K.ml K.l v)[j]? := fun j hj => by
    rw [cell_of hb, List.getElem?_toArray]; exact hA j hj
  have hle := hK.le
  have c53 : K.codes ≤ 53 := hle
  refine ⟨(cell 0 (by omega)).trans rfl, fun j hj => ?_, fun j hj => ?_, ?_, ?_, ?_, ⟨.inl rfl, fun e => (by cases e), fun j hj => ?_, Nat.le_refl _⟩, obj_lt hb, obj_lt hg, hK⟩
  · rw [Nat.add_assoc, cell (1 + j) (by omega), Nat.add_comm 1 j]
    show ((_ ++ _ ++ _ : List Value))[j]? = _
    rw [List.append_assoc, List.getElem?_append_left (by rw [List.length_map, hl1]; omega), List.getElem?_map, pad_at 53 _ j (by have := hK.len; unfold Kd.lsts at this; omega)]
    rfl
  · rw [Nat.add_assoc, cell (54 + j) (by omega), show 54 + j = 53 + j + 1 from by omega]
    show ((_ ++ _ ++ _ : List Value))[53 + j]? = _
    rw [List.append_assoc, List.getElem?_append_right (by rw [List.length_map, hl1]; omega), List.length_map, hl1, Nat.add_sub_cancel_left, List.getElem?_append_left (by rw [List.length_map, hl2]; omega), List.getElem?_map, pad_at 53 _ j hj]
    rfl
  · rw [cell 107 (by omega)]
    show ((_ ++ _ ++ _ : List Value))[106]? = _
    rw [List.getElem?_append_right (by rw [List.length_append, List.length_map, List.length_map, hl1, hl2]; omega), List.length_append, List.length_map, List.length_map, hl1, hl2]
    rfl
  · rw [cell 108 (by omega)]
    show ((_ ++ _ ++ _ : List Value))[107]? = _
    rw [List.getElem?_append_right (by rw [List.length_append, List.length_map, List.length_map, hl1, hl2]; omega), List.length_append, List.length_map, List.length_map, hl1, hl2]
    rfl
  · rw [cell 109 (by omega)]
    show ((_ ++ _ ++ _ : List Value))[108]? = _
    rw [List.getElem?_append_right (by rw [List.length_append, List.length_map, List.length_map, hl1, hl2]; omega), List.length_append, List.length_map, List.length_map, hl1, hl2, hv]
    rfl
  · rw [cell_of hg, Nat.zero_add, List.getElem?_toArray, i16c, List.getElem?_map, List.getElem?_eq_getElem hj]
    rfl
/-- The three codings. -/
structure Cods (w : World) (b g0 g1 g2 : Nat) : Prop where
  cl : Coding w b 0 g0 kdL
  cb : Coding w b 110 g1 kdB
  cm : Coding w b 220 g2 kdM
theorem cods_of {w : World} {b g0 g1 g2 : Nat} (h : IsCod w b g0 g1 g2) : Cods w b g0 g1 g2 := by
  have l0 := codL_length kdL kokL (.slice (some ⟨g0, 0, none⟩) 36 36)
  have l1 := codL_length kdB kokB (.slice (some ⟨g1, 0, none⟩) 29 29)
  refine ⟨coding_of kokL h.obj _ rfl (fun j hj => ?_) h.o0, coding_of kokB h.obj _ rfl (fun j hj => ?_) h.o1, coding_of kokM h.obj _ rfl (fun j hj => ?_) h.o2⟩
  · unfold codA
    rw [List.append_assoc, Nat.zero_add]
    exact List.getElem?_append_left (by rw [show codL 0 eL 9 6 _ = codL kdL.first kdL.es kdL.ml kdL.l _ from rfl, l0]; exact hj)
  · unfold codA
    rw [List.append_assoc, List.getElem?_append_right (by rw [show codL 0 eL 9 6 _ = codL kdL.first kdL.es kdL.ml kdL.l _ from rfl, l0]; omega), show codL 0 eL 9 6 _ = codL kdL.first kdL.es kdL.ml kdL.l _ from rfl, l0, Nat.add_sub_cancel_left]
    exact List.getElem?_append_left (by rw [show codL 1 eB 8 5 _ = codL kdB.first kdB.es kdB.ml kdB.l _ from rfl, l1]; exact hj)
  · unfold codA
    rw [List.getElem?_append_right (by rw [List.length_append, show codL 0 eL 9 6 _ = codL kdL.first kdL.es kdL.ml kdL.l _ from rfl, l0, show codL 1 eB 8 5 _ = codL kdB.first kdB.es kdB.ml kdB.l _ from rfl, l1]; omega), List.length_append, show codL 0 eL 9 6 _ = codL kdL.first kdL.es kdL.ml kdL.l _ from rfl, l0, show codL 1 eB 8 5 _ = codL kdB.first kdB.es kdB.ml kdB.l _ from rfl, l1, show 220 + j - (110 + 110) = j from by omega]
    rfl
theorem Cods.keep {w w' : World} {S : Nat → Prop} {b g0 g1 g2 : Nat} (h : Cods w b g0 g1 g2) (hk : Keep S w w') (hb : ¬ S b) (h0 : ¬ S g0) (h1 : ¬ S g1) (h2 : ¬ S g2) : Cods w' b g0 g1 g2 :=
  ⟨h.cl.keep hk hb h0, h.cb.keep hk hb h1, h.cm.keep hk hb h2⟩
end Go.Proofs.YtgaepmmpedaaiaaGreatDoor

namespace Go.Proofs.YtgaepmmpedaaiaaGreatDoor
open Go.RowKit Go.Shelf
set_option linter.unusedVariables false

theorem slice53 (b o n : Nat) (hn : n ≤ 53) (W : World) : (sliceAtSem 53 (.pointer (some ⟨b, o, none⟩)) none (some (.int .i64 (n : Int))) none).run Tryz.prog W = .ok (.slice (some ⟨b, o, none⟩) n 53) W := by
  obtain ⟨i0, hi, hz⟩ : ∃ i, Tryz.prog.info? 52 = some i ∧ i.size = 1 := by
    have h : (Tryz.prog.info? 52).map (·.size) = some 1 := by kernel_rfl
    cases hq : Tryz.prog.info? 52 with
    | none => simp [hq] at h
    | some i => exact ⟨i, rfl, by simpa [hq] using h⟩
  have h1 : (n : Int) ≤ 53 := by omega
  simp [sliceAtSem, Instr.sliceAt, run_underlying Tryz.underlying53, Instr.sureAddr, Instr.sliceBounds, Instr.sliceBound, asIntOf, sizeOf, typeInfo, hi, Addr.add]
  intro h
  omega

section
attribute [local go_sem] sliceAtSem_eq
set_option maxHeartbeats 2000000 in
theorem codeOf_any (b o gc : Nat) (K : Kd) (x : Nat) (w : World) (h : Coding w b o gc K) (hx : x < 4294967296) (h0 : K.first ≤ x) :
    Calls Tryz.prog 70 #[.pointer (some ⟨b, o, none⟩), .int .i64 (x : Int)] w fun e w' => ∃ c, e = .returned (.int .u8 ((c : Nat) : Int)) ∧ K.Tells x c ∧ Keep noBlock w w' := by
  obtain ⟨n, hn⟩ : ∃ n, n = K.codes := ⟨_, rfl⟩
  have hle := h.ok.le
  have hln := h.ok.len
  have hs := slice53 b (o + 1) n (by omega)
  have hc := h.codes
  rw [← hn] at hc
  obtain ⟨W1, hW1⟩ : ∃ W1, W1 = w.drew := ⟨_, rfl⟩
  have hk1 : Keep noBlock w W1 := by rw [hW1]; exact (Keep.refl _ w).drew
  have h1 := h.keep hk1 (fun h => h) (fun h => h)
  have hc1 : W1.cell? ⟨b, o, none⟩ = some (.int .i64 (n : Int)) := by rw [hn]; exact h1.codes
  have HL := hid (lastUpTo_any b (o + 1) 53 K.lsts x W1 (fun j hj => h1.least j (by omega)) hx (by omega) (by have := h.ok.pos; omega) (fun j => by
    by_cases hj : j < K.codes
    · exact (h.ok.lt j hj).1
    · rw [List.getElem?_eq_none (by omega)]; simp) (by have := h.ok.zero; unfold Kd.lst at this; omega))
  have HN := (show Hid (n = K.codes ∧ K.lsts.length = K.codes ∧ Keep noBlock w W1) from ⟨hn, hln, hk1⟩)
  rw [hln, ← hn] at HL
  have hnI : (n : Int) ≤ 53 := by omega
  have hxI : (x : Int) < 4294967296 := by omega
  have hxw : IntKind.u32.wrap (x : Int) = (x : Int) := by rw [IntKind.wrap_u32]; omega
  clear h h1 hn hk1 hln hle h0
  go_enter Tryz.func70, Tryz.ntmps70
  go_wp2_with fail
  refine region_tail 10 mx (by kernel_rfl) ?_
  rw [← hW1]
  clear hW1
  simp only [List.take_succ_cons, List.take_zero, List.drop_succ_cons, List.drop_zero]
  repeat (quiet_step (fail))
  refine wpQuiet_nil ?_
  go_wp2_with fail
  refine HL.out.mono ?_
  rintro e w2 ⟨c, rfl, rfl, c1, c2, c3⟩
  have HF := (show Hid (K.Tells x c ∧ Keep noBlock w w2) from by
    refine ⟨⟨by rw [← HN.out.1]; exact c1, c2, ?_⟩, HN.out.2.2⟩
    rw [← HN.out.1]
    exact c3)
  have hcI : (c : Int) < 53 := by omega
  have hcw : IntKind.u8.wrap (c : Int) = (c : Int) := by rw [IntKind.wrap_u8]; omega
  clear c2 c3 HL
  go_wp2_with fail
  go_ret
  exact ⟨c, rfl, HF.out⟩
end

/-- A reader of a tail: L was put, A of it is unread. -/
def TAt (w : World) (rb g : Nat) (L A : List (Fin 2)) : Prop := Tl.IsR w rb g (pack (L ++ [1])) A.length 0 ∧ ∃ M, L = A ++ M
theorem TAt.keep {w w' : World} {S : Nat → Prop} {rb g : Nat} {L A : List (Fin 2)} (h : TAt w rb g L A) (hk : Keep S w w') (h1 : ¬ S rb) (h2 : ¬ S g) : TAt w' rb g L A := ⟨h.1.keep hk h1 (fun _ => h2), h.2⟩
theorem TAt.bits {w : World} {rb g : Nat} {L A : List (Fin 2)} {x m : Nat} (h : TAt w rb g L (A ++ low x m)) (hx : x < 2 ^ m) (hm : m ≤ 56) :
    Calls Tryz.prog 34 #[.pointer (some ⟨rb, 0, none⟩), .int .i64 (m : Int)] w fun e w' => e = .returned (.int .u64 (x : Int)) ∧ TAt w' rb g L A ∧ Keep (fun k => k = rb) w w' := by
  obtain ⟨h1, M, hM⟩ := h
  have hl : (A ++ low x m).length = A.length + m := by rw [List.length_append, low_length]
  have hn := Tl.num_back A (M ++ [1]) x m (L ++ [1]) (by rw [hM]; simp)
  rw [Nat.mod_eq_of_lt hx] at hn
  rw [hl] at h1
  refine (Tl.bits_there rb g _ A.length m (A.length + m) x hm rfl hn w h1).mono ?_
  rintro e w' ⟨rfl, q1, q2⟩
  exact ⟨rfl, ⟨q1, low x m ++ M, by rw [hM, List.append_assoc]⟩, q2⟩

set_option maxHeartbeats 2000000 in
theorem read_any (b o gc rb g : Nat) (K : Kd) (c y : Nat) (L A : List (Fin 2)) (w : World) (h : Coding w b o gc K) (hc : c < K.codes) (hR : TAt w rb g L (A ++ low y (K.ext c))) (hy : y < 2 ^ K.ext c) (hne : b ≠ rb) :
    Calls Tryz.prog 36 #[.pointer (some ⟨b, o, none⟩), .pointer (some ⟨rb, 0, none⟩), .int .u8 (c : Int)] w fun e w' => e = .returned (.int .i64 ((K.lst c + y : Nat) : Int)) ∧ TAt w' rb g L A ∧ Keep (fun k => k = rb) w w' := by
  have c1 := h.least c hc
  have c2 := h.extra c hc
  have hlt := h.ok.lt c hc
  have hle := h.ok.le
  obtain ⟨l, hl⟩ : ∃ l, l = K.lst c := ⟨_, rfl⟩
  obtain ⟨m, hm⟩ : ∃ m, m = K.ext c := ⟨_, rfl⟩
  rw [← hl] at c1 hlt ⊢
  rw [← hm] at c2 hlt hR hy
  have hy32 : y < 4294967296 := Nat.lt_of_lt_of_le hy (Nat.pow_le_pow_right (n := 2) (j := 32) (by omega) (by omega))
  obtain ⟨s, hs⟩ : ∃ s, s = l + y := ⟨_, rfl⟩
  rw [← hs]
  have hsI : (l : Int) + (y : Int) = (s : Int) := by omega
  have hsb : s < 8589934592 := by omega
  have d1 : ∀ q, (w.drewN q).cell? ⟨b, o + 1 + c, none⟩ = some (.int .u32 (l : Int)) := fun q => c1
  have d2 : ∀ q, (w.drewN q).cell? ⟨b, o + 54 + c, none⟩ = some (.int .u8 (m : Int)) := fun q => c2
  have HB := (show Hid (∀ q, Calls Tryz.prog 34 #[.pointer (some ⟨rb, 0, none⟩), .int .i64 (m : Int)] (w.drewN q) fun e w' => e = .returned (.int .u64 (y : Int)) ∧ TAt w' rb g L A ∧ Keep (fun k => k = rb) w w' ∧ w'.cell? ⟨b, o + 1 + c, none⟩ = some (.int .u32 (l : Int)) ∧ w'.cell? ⟨b, o + 54 + c, none⟩ = some (.int .u8 (m : Int))) from fun q => by
    have hkq : Keep noBlock w (w.drewN q) := ⟨rfl, rfl, rfl, Nat.le_refl _, fun _ _ _ => rfl⟩
    refine ((hR.keep hkq (fun h => h) (fun h => h)).bits hy (by omega)).mono ?_
    rintro e w' ⟨rfl, q1, q2⟩
    have e := q2.block b h.lt hne
    exact ⟨rfl, q1, (hkq.mono (fun _ _ h => h.elim)).trans q2 (fun _ _ h => h), (World.cell?_of_block e).trans c1, (World.cell?_of_block e).trans c2⟩)
  have HW := (show Hid (IntKind.i64.wrap (m : Int) = (m : Int)) from (by rw [IntKind.wrap_i64]; omega : IntKind.i64.wrap (m : Int) = (m : Int)))
  have hcI : (c : Int) < 53 := by omega
  have hc53 : c < 53 := by omega
  have hlI : (l : Int) < 4294967296 := by omega
  have hyI : (y : Int) < 4294967296 := by omega
  have hwl : IntKind.i64.wrap (l : Int) = (l : Int) := by rw [IntKind.wrap_i64]; omega
  have hwy : IntKind.i64.wrap (y : Int) = (y : Int) := by rw [IntKind.wrap_i64]; omega
  have hws : IntKind.i64.wrap (s : Int) = (s : Int) := by rw [IntKind.wrap_i64]; omega
  clear h hR hlt hle hl hm hs
  go_enter Tryz.func36, Tryz.ntmps36
  go_wp2_with fail
  go_region_held3 (fun W => W.cell? ⟨b, o + 1 + c, none⟩ = some (.int .u32 (l : Int)) ∧ W.cell? ⟨b, o + 54 + c, none⟩ = some (.int .u8 (m : Int))) (first | exact ⟨d1 _, d2 _⟩ | exact ⟨c1, c2⟩ | exact ⟨f1, f2⟩) ((first
    | (go_at_call 34; rw [HW.out]; refine (HB.out 1).mono ?_; rintro e w3 ⟨rfl, hR3, hK3, f1, f2⟩)))
  go_wp2_with fail
  go_ret
  exact ⟨rfl, hR3, hK3⟩
end Go.Proofs.YtgaepmmpedaaiaaGreatDoor

namespace Go.Proofs.YtgaepmmpedaaiaaGreatDoor
open Go.RowKit Go.Shelf

/-- The array nth when i states are done. -/
def nthF (xs : List Int) (S i s : Nat) : Int := (if s < xs.length then shareN (xs[s]?.getD 0) else 0) + ((cntP (fun j => decide (symF xs S j = s)) i : Nat) : Int)
theorem nthF_at {xs : List Int} {S : Nat} (h : Tab xs S) (i : Nat) (hi : i < S) : nthF xs S i (symF xs S i) = ((xF xs S i : Nat) : Int) := by
  obtain ⟨c, e, c1, c2, c3, c4⟩ := h.x i hi
  obtain ⟨-, h2, -⟩ := h.symF i hi
  unfold nthF
  rw [if_pos h2, e, c4]
  unfold blF
  omega
theorem nthF_succ (xs : List Int) (S i s : Nat) : nthF xs S (i + 1) s = if s = symF xs S i then nthF xs S i s + 1 else nthF xs S i s := by
  unfold nthF
  simp only [cntP]
  by_cases e : symF xs S i = s
  · subst e; simp; omega
  · rw [if_neg (show ¬ s = symF xs S i from fun h => e h.symm)]; simp [e]

set_option maxRecDepth 100000 in
set_option maxHeartbeats 4000000 in
theorem setNext_any (cb l : Nat) (xs : List Int) (a : Option Addr) (cap gb off : Nat) (w : World) (hT : IsT w cb 177 4096 (symF xs (2 ^ l)) (fun _ => 0) (fun _ => 0)) (hR : RowI w .i16 a cap gb off xs) (hx : I16 xs) (hgb : xs ≠ [] → gb ≠ cb) (hTab : Tab xs (2 ^ l)) (hl12 : l ≤ 12) :
    Calls Tryz.prog 96 #[.slice (some ⟨cb, 0, none⟩) (2 ^ l) 4096, .slice a xs.length cap, .int .i64 (l : Int)] w fun e w' => e = .returned (.tuple #[]) ∧
      IsT w' cb 177 4096 (symF xs (2 ^ l)) (fun i => if i < 2 ^ l then bitF l (xF xs (2 ^ l) i) else 0) (fun i => if i < 2 ^ l then baseF l (xF xs (2 ^ l) i) else 0) ∧ Keep (fun k => k = cb) w w' := by
  have hcb := hT.lt
  have hSb : 2 ^ l ≤ 4096 := Nat.pow_le_pow_right (n := 2) (j := 12) (by omega) hl12
  have hlen := hTab.len
  have HH := (show Hid (RowI w .i16 a cap gb off xs ∧ (xs ≠ [] → gb ≠ cb) ∧ Tab xs (2 ^ l) ∧ I16 xs) from ⟨hR, hgb, hTab, hx⟩)
  have hA : IsA (w.alloc (.cells Tryz.zeroCells204 204)) w.heap.size 204 .i64 256 (fun _ => 0) := by rw [zero107]; exact isA_zeros w 204 .i64 256
  have HA := (show Hid (IsA (w.alloc (.cells Tryz.zeroCells204 204)) w.heap.size 204 .i64 256 (fun _ => 0) ∧ Keep (fun k => k = cb) w (w.alloc (.cells Tryz.zeroCells204 204)) ∧ IsT (w.alloc (.cells Tryz.zeroCells204 204)) cb 177 4096 (symF xs (2 ^ l)) (fun _ => 0) (fun _ => 0)) from
    ⟨hA, (Keep.refl _ w).alloc _, hT.keep ((Keep.refl noBlock w).alloc _) (fun h => h)⟩)
  obtain ⟨n, hn⟩ : ∃ n, n = xs.length := ⟨_, rfl⟩
  rw [← hn] at hlen ⊢
  have HN := (show Hid (n = xs.length) from hn)
  obtain ⟨S, hS⟩ : ∃ S, S = 2 ^ l := ⟨_, rfl⟩
  rw [← hS] at hSb HH HA ⊢
  have HS := (show Hid (S = 2 ^ l) from hS)
  clear hT hR hgb hTab hn hS hA hx
  go_enter Tryz.func96, Tryz.ntmps96
  go_wp2_with fail
  generalize w.alloc (.cells Tryz.zeroCells204 204) = W1 at HA ⊢
  obtain ⟨nb, hnb⟩ : ∃ nb, nb = w.heap.size := ⟨_, rfl⟩
  rw [← hnb] at HA hcb ⊢
  have HNB := (show Hid (nb = w.heap.size) from hnb)
  clear hnb
  go_loopw [14] (fun v14 wr => ∃ i : Nat, v14 = .int .i64 (i : Int) ∧ i ≤ n ∧ Hid (IsA wr nb 204 .i64 256 (fun s => if s < i then shareN (xs[s]?.getD 0) else 0) ∧ Keep (fun k => k = cb) w wr ∧ IsT wr cb 177 4096 (symF xs S) (fun _ => 0) (fun _ => 0))) (fun v14 _ => n - (intOf v14).toNat)
  case atStart => exact ⟨0, rfl, Nat.zero_le _, HA.out.1.congr (fun i _ => by simp), HA.out.2⟩
  case round =>
    clear HA
    obtain ⟨i, rfl, hi, HC⟩ := hrel
    by_cases hlt : i < n
    · obtain ⟨h1, h2, h3⟩ := HC.out
      obtain ⟨hR, hgb, hTab, hx⟩ := HH.out
      have hix : i < xs.length := by have := HN.out; omega
      have hR2 := hR.keep h2 hgb
      obtain rfl := hR2.here hix
      have c0 := hR2.cells i hix
      have HSH := (show Hid (∀ w : World, _) from fun w => share_any (xs[i]?.getD 0) (hx i).1 (hx i).2 w)
      have fz := h1.frozen i
      have ci := h1.cell i (by omega)
      have hst := h1.set i (shareN (xs[i]?.getD 0))
      have hltI : (i : Int) < (n : Int) := by omega
      have hi256 : (i : Int) < 256 := by omega
      have hkk : Keep (fun k => k = nb) wr (wr.setCell ⟨nb, i, none⟩ (.int .i64 (shareN (xs[i]?.getD 0)))) := Keep.setCell (S := fun k => k = nb) (p := ⟨nb, i, none⟩) (Keep.refl _ wr) (fun _ => rfl) _
      have HG := (show Hid (IsA (wr.setCell ⟨nb, i, none⟩ (.int .i64 (shareN (xs[i]?.getD 0)))) nb 204 .i64 256 (fun s => if s < i + 1 then shareN (xs[s]?.getD 0) else 0) ∧ Keep (fun k => k = cb) w (wr.setCell ⟨nb, i, none⟩ (.int .i64 (shareN (xs[i]?.getD 0)))) ∧ IsT (wr.setCell ⟨nb, i, none⟩ (.int .i64 (shareN (xs[i]?.getD 0)))) cb 177 4096 (symF xs S) (fun _ => 0) (fun _ => 0)) from by
        refine ⟨hst.congr (fun j _ => ?_), h2.trans hkk (fun j hj e => by have := HNB.out; omega), h3.keep hkk (by omega)⟩
        by_cases e : j = i
        · subst e; rw [if_pos rfl, if_pos (by omega)]
        · rw [if_neg e]
          by_cases hj : j < i
          · rw [if_pos hj, if_pos (by omega)]
          · rw [if_neg hj, if_neg (by omega)])
      generalize hsc : shareN (xs[i]?.getD 0) = sc at *
      generalize xs[i]?.getD 0 = c at *
      clear h1 h2 h3 hR hgb hTab hx hR2 hst hkk HC hsc
      go_wp2_with (go_at_call 109; refine (HSH.out _).mono ?_; rintro e w'' ⟨rfl, rfl⟩)
      go_roundw
      case rel => exact ⟨i + 1, by go_num, by omega, HG⟩
      case measure => simp [intOf]; omega
    · obtain rfl : i = n := by omega
      have HD := (show Hid (IsA wr nb 204 .i64 256 (nthF xs S 0) ∧ Keep (fun k => k = cb) w wr ∧ IsT wr cb 177 4096 (symF xs S) (fun i => if i < 0 then bitF l (xF xs S i) else 0) (fun i => if i < 0 then baseF l (xF xs S i) else 0)) from by
        obtain ⟨h1, h2, h3⟩ := HC.out
        refine ⟨h1.congr (fun j _ => ?_), h2, h3.congr (fun _ _ => rfl) (fun _ _ => by simp) (fun _ _ => by simp)⟩
        unfold nthF
        rw [← HN.out]; simp [cntP])
      have hltI : ¬ (i : Int) < (i : Int) := by omega
      clear HC HN
      go_wp2_with fail
      go_loopw [26] (fun v26 wr => ∃ i : Nat, v26 = .int .i64 (i : Int) ∧ i ≤ S ∧ Hid (IsA wr nb 204 .i64 256 (nthF xs S i) ∧ Keep (fun k => k = cb) w wr ∧ IsT wr cb 177 4096 (symF xs S) (fun j => if j < i then bitF l (xF xs S j) else 0) (fun j => if j < i then baseF l (xF xs S j) else 0))) (fun v26 _ => S - (intOf v26).toNat)
      case atStart => exact ⟨0, rfl, Nat.zero_le _, HD⟩
      case round =>
        clear HD
        obtain ⟨i, rfl, hi, HC⟩ := hrel
        by_cases hlt : i < S
        · obtain ⟨h1, h2, h3⟩ := HC.out
          obtain ⟨hR, hgb, hTab, hx⟩ := HH.out
          obtain ⟨ct, cb1, cb2⟩ := h3.cells i (by omega)
          have f1 := h3.frozen (i * 3 + 1)
          have f2 := h3.frozen (i * 3 + 2)
          have hsl := (hTab.symF i hlt).2.1
          have hsl256 : symF xs S i < 256 := by have := hTab.len; omega
          have cn := h1.cell (symF xs S i) hsl256
          have fn := h1.frozen (symF xs S i)
          rw [nthF_at hTab i hlt] at cn
          have hcl : xF xs S i ≠ 0 ∧ xF xs S i < 2 ^ (l + 1) ∧ bitF l (xF xs S i) ≤ l ∧ baseF l (xF xs S i) < S ∧ 1 ≤ lenN (xF xs S i) ∧ lenN (xF xs S i) ≤ l + 1 ∧ S ≤ xF xs S i * 2 ^ bitF l (xF xs S i) ∧ xF xs S i * 2 ^ bitF l (xF xs S i) < 2 ^ (l + 1) := by
            have hT2 := hTab
            have hl2 := hlt
            rw [HS.out] at hT2 hl2 ⊢
            obtain ⟨a1, a2, a3, a4, a5, a6, a7, a8⟩ := hT2.cell i hl2
            exact ⟨a1, a2, a3, a4, a6, a7, a8, (cell_fits l _ a1 a2).2.2.1⟩
          have hp13 : 2 ^ (l + 1) ≤ 8192 := Nat.pow_le_pow_right (n := 2) (j := 13) (by omega) (by omega)
          obtain ⟨s, hs⟩ : ∃ s, s = symF xs S i := ⟨_, rfl⟩
          obtain ⟨x, hxe⟩ : ∃ x, x = xF xs S i := ⟨_, rfl⟩
          rw [← hxe] at hcl cn
          rw [← hs] at ct cn fn hsl256
          obtain ⟨k1, k2, k3, k4, k5, k6, k7, k8⟩ := hcl
          obtain ⟨b, hb⟩ : ∃ b, b = bitF l x := ⟨_, rfl⟩
          obtain ⟨z, hz⟩ : ∃ z, z = baseF l x := ⟨_, rfl⟩
          obtain ⟨y, hy⟩ : ∃ y, y = x * 2 ^ bitF l x := ⟨_, rfl⟩
          rw [← hy] at k7 k8
          rw [← hb] at k3
          rw [← hz] at k4
          have hbI : (l : Int) + 1 - ((lenN x : Nat) : Int) = (b : Int) := by rw [hb]; unfold bitF; omega
          have hyI : (x : Int) * 2 ^ b = (y : Int) := by rw [hy, hb]; simp
          have hzI : (y : Int) - (S : Int) = (z : Int) := by rw [hz, hy]; unfold baseF; rw [hy, HS.out] at k7; rw [HS.out]; omega
          have HLen := (show Hid (∀ w : World, _) from fun w => len_any x (by omega) w)
          have hLb : ((lenN x : Nat) : Int) ≤ 13 := by omega
          have hL0 : (0 : Int) ≤ ((lenN x : Nat) : Int) := by omega
          have hxb : (x : Int) < 8192 := by omega
          have hyb : (y : Int) < 8192 := by omega
          have hzb : (z : Int) < 4096 := by omega
          have hbb : (b : Int) ≤ 12 := by omega
          have hsI : (s : Int) < 256 := by omega
          have hltI2 : (i : Int) < (S : Int) := by omega
          have hSI : (S : Int) ≤ 4096 := by omega
          have hlI : (l : Int) ≤ 12 := by omega
          have hst := h1.set s ((x : Int) + 1)
          have hkk : Keep (fun k => k = nb) wr (wr.setCell ⟨nb, s, none⟩ (.int .i64 ((x : Int) + 1))) := Keep.setCell (S := fun k => k = nb) (p := ⟨nb, s, none⟩) (Keep.refl _ wr) (fun _ => rfl) _
          have hT2 := h3.keep hkk (by omega)
          have hA2 : IsA (wr.setCell ⟨nb, s, none⟩ (.int .i64 ((x : Int) + 1))) nb 204 .i64 256 (nthF xs S (i + 1)) := hst.congr (fun j _ => by
            rw [nthF_succ, ← hs]
            split
            · rename_i e; rw [e, hs, nthF_at hTab i hlt, hxe]
            · rfl)
          have HG := (show Hid (IsA (wr.setCell ⟨nb, s, none⟩ (.int .i64 ((x : Int) + 1))) nb 204 .i64 256 (nthF xs S (i + 1)) ∧ Keep (fun k => k = cb) w (wr.setCell ⟨nb, s, none⟩ (.int .i64 ((x : Int) + 1))) ∧ IsT (wr.setCell ⟨nb, s, none⟩ (.int .i64 ((x : Int) + 1))) cb 177 4096 (symF xs S) (fun j => if j < i then bitF l (xF xs S j) else 0) (fun j => if j < i then baseF l (xF xs S j) else 0)) from
            ⟨hA2, h2.trans hkk (fun j hj e => by have := HNB.out; omega), hT2⟩)
          have HX := (show Hid (b = bitF l (xF xs S i) ∧ z = baseF l (xF xs S i)) from ⟨by rw [hb, hxe], by rw [hz, hxe]⟩)
          obtain ⟨cta, cb1a, cb2a⟩ := hT2.cells i (by omega)
          have f1a := hT2.frozen (i * 3 + 1)
          have f2a := hT2.frozen (i * 3 + 2)
          generalize lenN x = L at *
          clear h1 h2 h3 hR hgb hTab hx HC hst hkk hT2 hA2 hs hxe hb hz hy k1 k2 k3 k4 k5 k6 k7 k8 hp13 hsl cb1 cb2 f1 f2 hsl256
          go_wp2_with fail
          generalize wr.setCell ⟨nb, s, none⟩ (.int .i64 ((x : Int) + 1)) = W2 at HG cta cb1a cb2a f1a f2a ⊢
          refine (HLen.out _).mono ?_
          rintro e w'' ⟨rfl, rfl⟩
          go_wp2_with fail
          go_roundw
          case rel =>
            obtain ⟨g1, g2, g3⟩ := HG.out
            obtain ⟨e1, e2⟩ := HX.out
            have t1 := (g3.setBit i b).setBase i z
            have kk : Keep (fun k => k = cb) w'' ((w''.setCell ⟨cb, i * 3 + 1, none⟩ (.int .u8 (b : Int))).setCell ⟨cb, i * 3 + 2, none⟩ (.int .u16 (z : Int))) :=
              Keep.setCell (S := fun k => k = cb) (p := ⟨cb, i * 3 + 2, none⟩) (Keep.setCell (S := fun k => k = cb) (p := ⟨cb, i * 3 + 1, none⟩) (Keep.refl _ w'') (fun _ => rfl) _) (fun _ => rfl) _
            refine ⟨i + 1, by go_num, by omega, g1.keep kk (by omega), g2.trans kk (fun _ _ h => h), t1.congr (fun _ _ => rfl) (fun j _ => ?_) (fun j _ => ?_)⟩
            · by_cases e : j = i
              · subst e; rw [if_pos rfl, if_pos (by omega), e1]
              · rw [if_neg e]
                by_cases hj : j < i
                · rw [if_pos hj, if_pos (by omega)]
                · rw [if_neg hj, if_neg (by omega)]
            · by_cases e : j = i
              · subst e; rw [if_pos rfl, if_pos (by omega), e2]
              · rw [if_neg e]
                by_cases hj : j < i
                · rw [if_pos hj, if_pos (by omega)]
                · rw [if_neg hj, if_neg (by omega)]
          case measure => simp [intOf]; omega
        · obtain rfl : i = S := by omega
          have hltI2 : ¬ (i : Int) < (i : Int) := by omega
          go_wp2_with fail
          go_end0
          obtain ⟨h1, h2, h3⟩ := HC.out
          exact ⟨rfl, h3, h2⟩

end Go.Proofs.YtgaepmmpedaaiaaGreatDoor

namespace Go.Proofs.YtgaepmmpedaaiaaGreatDoor
open Go.RowKit Go.Shelf

/-- The slice at block g reads as n cells. -/
structure RowT (w : World) (g n : Nat) (sy bi ba : Nat → Nat) : Prop where
  cells : ∀ i, i < n → w.cell? ⟨g, i * 3, none⟩ = some (.int .u8 ((sy i : Nat) : Int)) ∧ w.cell? ⟨g, i * 3 + 1, none⟩ = some (.int .u8 ((bi i : Nat) : Int)) ∧ w.cell? ⟨g, i * 3 + 2, none⟩ = some (.int .u16 ((ba i : Nat) : Int))
  lt : g < w.heap.size
theorem RowT.keep {w w' : World} {S : Nat → Prop} {g n : Nat} {sy bi ba : Nat → Nat} (h : RowT w g n sy bi ba) (hk : Keep S w w') (hS : ¬ S g) : RowT w' g n sy bi ba := by
  have e := hk.block g h.lt hS
  refine ⟨fun i hi => ?_, Nat.lt_of_lt_of_le h.lt hk.size⟩
  obtain ⟨a, b, c⟩ := h.cells i hi
  exact ⟨(World.cell?_of_block e).trans a, (World.cell?_of_block e).trans b, (World.cell?_of_block e).trans c⟩

theorem info50 : (Tryz.prog.info? 79).map (fun i => (i.zero, i.size, i.bytes)) = some (some (.agg #[.int .u8 0, .int .u8 0, .int .u16 0]), 3, 4) := by kernel_rfl

/-- What is read of the first n cells of an array. -/
theorem IsT.list {w : World} {b t N : Nat} {sy bi ba : Nat → Nat} (h : IsT w b t N sy bi ba) (n : Nat) (hn : n ≤ N) :
    ∃ L : List Value, L.length = n * 3 ∧ (∀ j u, L[j]? = some u → w.cell? ⟨b, j, none⟩ = some u) ∧ (∀ u ∈ L, u.oneCell' = true) ∧ ∀ i, i < n → L[i * 3]? = some (.int .u8 ((sy i : Nat) : Int)) ∧ L[i * 3 + 1]? = some (.int .u8 ((bi i : Nat) : Int)) ∧ L[i * 3 + 2]? = some (.int .u16 ((ba i : Nat) : Int)) := by
  obtain ⟨cs, h1, h2, h3⟩ := h.obj
  have hat : ∀ j, j < n * 3 → (cs.toList.take (n * 3))[j]? = cs[j]? := fun j hj => by
    rw [List.getElem?_take, if_pos hj]; simp
  have hlen : (cs.toList.take (n * 3)).length = n * 3 := by rw [List.length_take, Array.length_toList, h2]; omega
  refine ⟨cs.toList.take (n * 3), hlen, fun j u hu => ?_, fun u hu => ?_, fun i hi => ?_⟩
  · have hj : j < n * 3 := by rw [← hlen]; exact (List.getElem?_eq_some_iff.1 hu).1
    rw [hat j hj] at hu
    rw [cell_of h1, hu]
  · obtain ⟨j, hj, e⟩ := List.getElem_of_mem hu
    rw [hlen] at hj
    have e2 := hat j hj
    rw [List.getElem?_eq_getElem (by rw [hlen]; exact hj), e] at e2
    obtain ⟨d1, d2, d3⟩ := h3 (j / 3) (by omega)
    have hj3 : j = j / 3 * 3 ∨ j = j / 3 * 3 + 1 ∨ j = j / 3 * 3 + 2 := by omega
    rcases hj3 with hj3 | hj3 | hj3
    · rw [← hj3, ← e2] at d1; cases d1; rfl
    · rw [← hj3, ← e2] at d2; cases d2; rfl
    · rw [← hj3, ← e2] at d3; cases d3; rfl
  · rw [hat _ (by omega), hat _ (by omega), hat _ (by omega)]
    exact h3 i (by omega)

set_option maxHeartbeats 1000000 in
/-- slices.Clone of cells: the same cells in memory of its own. -/
theorem clone39_any (cb n cap : Nat) (sy bi ba : Nat → Nat) (hn : n ≤ 4096) (w : World) (h : IsT w cb 177 4096 sy bi ba) :
    Calls Tryz.prog 29 #[.slice (some ⟨cb, 0, none⟩) n cap] w fun e w' => ∃ g cap', e = .returned (.slice (some ⟨g, 0, none⟩) n cap') ∧ w.heap.size ≤ g ∧ n ≤ cap' ∧ RowT w' g n sy bi ba ∧ Keep noBlock w w' := by
  obtain ⟨i0, hi, hz0, hz1, hz2⟩ := info_parts info50
  obtain ⟨L, l1, l2, l3, l4⟩ := h.list n hn
  have hmax : n ≤ maxLen := by unfold maxLen; omega
  have hby : n * 4 ≤ 140737488355328 := by omega
  have heq := fun (w : World) (a : Option Addr) (n c n' c' : Nat) => Lib.run_eql_slice_nil (P := Tryz.prog) w 24 79 a n c n' c' Tryz.underlying24
  have hlt := h.lt
  have hown := World.ownsRow_made (e := 79) (size := 3) (base := w.heap.size) w #[] 0 (Nat.le_refl _) (Nat.zero_le _) rfl
  have hc' : ∀ j u, L[j]? = some u → (w.alloc (.cells #[] 79)).cell? ((⟨cb, 0, none⟩ : Addr).add j) = some u := fun j u hu => by
    rw [add0]
    exact (World.cell?_of_block (Below.heap_alloc _ _ _ hlt)).trans (l2 j u hu)
  have HL := (show Hid (∀ i, i < n → L[i * 3]? = some (.int .u8 ((sy i : Nat) : Int)) ∧ L[i * 3 + 1]? = some (.int .u8 ((bi i : Nat) : Int)) ∧ L[i * 3 + 2]? = some (.int .u16 ((ba i : Nat) : Int))) from l4)
  clear l2 l4
  go_enter Tryz.func29, Tryz.ntmps29
  go_wp2_with (at_builtin; refine wpList_append_own _ rfl _ _ 24 rfl w.heap.size 79 i0 (.agg #[.int .u8 0, .int .u8 0, .int .u16 0]) 3 4 Tryz.underlying24 hi hz0 hz1 hz2 rfl (by decide) (.slice (some ⟨w.heap.size, 0, none⟩) 0 0) 0 [] rfl hown ⟨cb, 0, none⟩ n cap L rfl l1 hc' l3 (by omega) (by omega) (by simp) ?_; intro v' w1 hown' hgrow hnil)
  go_ret
  have hk : Keep noBlock w w1 := ((Keep.refl _ w).alloc _).grown hgrow (fun k e hk => by
    have e' : w.heap.size = k := by simpa [Value.ownBlock] using e
    omega)
  rw [List.nil_append, Nat.zero_add] at hown'
  rcases hown'.2 with ⟨e1, h0⟩ | ⟨g, cap', cur, e1, hb, hg, hr1, hr2, hr3, hr4⟩
  · have := hnil.1 e1
    cases this.1
  · subst e1
    refine ⟨g, cap', rfl, hb, hr1, ⟨fun i hi => ?_, obj_lt hg⟩, hk⟩
    obtain ⟨d1, d2, d3⟩ := HL.out i hi
    have q1 := hown'.cells (g := g) rfl _ _ d1
    have q2 := hown'.cells (g := g) rfl _ _ d2
    have q3 := hown'.cells (g := g) rfl _ _ d3
    rw [add0] at q1 q2 q3
    exact ⟨q1, q2, q3⟩

set_option maxHeartbeats 400000 in
theorem table_bad (a : Option Addr) (cap gb off : Nat) (xs : List Int) (log : Int) (w : World) (h : RowI w .i16 a cap gb off xs) (hx : I16 xs) (hb : okT xs log = false) :
    Calls Tryz.prog 76 #[.slice a xs.length cap, .int .i64 log] w fun e w' => e = .returned (.tuple #[.slice none 0 0, .int .i64 70]) ∧ w' = w := by
  have HT := (show Hid (∀ w : World, RowI w .i16 a cap gb off xs → Calls Tryz.prog 94 #[.slice a xs.length cap, .int .i64 log] w fun e w' => e = .returned (.bool false) ∧ w' = w) from fun w h => by have := makeTable_any a cap gb off xs log w h hx; rwa [hb] at this)
  go_enter Tryz.func76, Tryz.ntmps76
  go_wp2_with (go_at_call 94; refine (HT.out _ h).mono ?_; rintro e w' ⟨rfl, rfl⟩)
  go_ret2
  exact ⟨rfl, rfl⟩

section
attribute [local go_sem] sliceSem_eq
set_option maxRecDepth 100000 in
set_option maxHeartbeats 2000000 in
theorem table_good (a : Option Addr) (cap gb off : Nat) (xs : List Int) (l : Nat) (w : World) (h : RowI w .i16 a cap gb off xs) (hx : I16 xs) (hb : okT xs (l : Int) = true) :
    Calls Tryz.prog 76 #[.slice a xs.length cap, .int .i64 (l : Int)] w fun e w' => ∃ g cap', e = .returned (.tuple #[.slice (some ⟨g, 0, none⟩) (2 ^ l) cap', .int .i64 0]) ∧ w.heap.size ≤ g ∧ 2 ^ l ≤ cap' ∧
      RowT w' g (2 ^ l) (symF xs (2 ^ l)) (fun i => bitF l (xF xs (2 ^ l) i)) (fun i => baseF l (xF xs (2 ^ l) i)) ∧ Keep noBlock w w' := by
  have HT := (show Hid (∀ w : World, RowI w .i16 a cap gb off xs → Calls Tryz.prog 94 #[.slice a xs.length cap, .int .i64 (l : Int)] w fun e w' => e = .returned (.bool true) ∧ w' = w) from fun w h => by have := makeTable_any a cap gb off xs l w h hx; rwa [hb] at this)
  obtain ⟨hG, hT, hne, hlen, hl5, hl12⟩ := okT_good hb
  have hTab := okT_tab hb
  have hSb : 2 ^ l ≤ 4096 := Nat.pow_le_pow_right (n := 2) (j := 12) (by omega) hl12
  have hp : (2 : Int) ^ l = ((2 ^ l : Nat) : Int) := by simp
  obtain ⟨S, hS⟩ : ∃ S, S = 2 ^ l := ⟨_, rfl⟩
  rw [← hS] at hp hSb hTab ⊢
  have HS := (show Hid (S = 2 ^ l) from hS)
  have hSI : (S : Int) ≤ 4096 := by omega
  have hlI : (l : Int) ≤ 12 := by omega
  have HTB := (show Hid (Tab xs S ∧ Good xs) from ⟨hTab, hG⟩)
  clear hT hS hG hTab
  go_enter Tryz.func76, Tryz.ntmps76
  go_wp2_with (go_at_call 94; refine (HT.out _ h).mono ?_; rintro e w' ⟨rfl, rfl⟩)
  have hT0 : IsT (w'.alloc (.cells Tryz.zeroCells177 177)) w'.heap.size 177 4096 (fun _ => 0) (fun _ => 0) (fun _ => 0) := by rw [zero71]; exact isT_zeros w' 177 4096
  have hK1 : Keep noBlock w' (w'.alloc (.cells Tryz.zeroCells177 177)) := (Keep.refl _ w').alloc _
  have hgb : xs ≠ [] → gb ≠ w'.heap.size := fun hn e => by have := h.block hn; omega
  have hR1 := h.keep hK1 (fun _ h => h)
  generalize w'.alloc (.cells Tryz.zeroCells177 177) = W1 at hT0 hK1 hR1 ⊢
  obtain ⟨cb, hcb⟩ : ∃ cb, cb = w'.heap.size := ⟨_, rfl⟩
  rw [← hcb] at hT0 hgb ⊢
  have HCB := (show Hid (cb = w'.heap.size) from hcb)
  clear hcb HT
  refine (setSymbols_any cb S xs a cap gb off W1 hT0 hR1 hgb HTB.out.1).mono ?_
  rintro e W2 ⟨rfl, hT2, hK2⟩
  have hR2 := hR1.keep hK2 hgb
  have hN := setNext_any cb l xs a cap gb off W2 (by rw [← HS.out]; exact hT2) hR2 hx hgb (by rw [← HS.out]; exact HTB.out.1) (by omega)
  rw [← HS.out] at hN
  have HNX := (show Hid (Calls Tryz.prog 96 _ W2 _) from hN)
  have HK := (show Hid (Keep noBlock w' W1 ∧ Keep (fun k => k = cb) W1 W2) from ⟨hK1, hK2⟩)
  clear hT0 hR1 hT2 hK2 hK1 hN
  go_wp2_with fail
  refine HNX.out.mono ?_
  rintro e W3 ⟨rfl, hT3, hK3⟩
  go_wp2_with fail
  refine (clone39_any cb S 4096 _ _ _ hSb W3 hT3).mono ?_
  rintro e W4 ⟨g, cap', rfl, hg, hcap, hRT, hK4⟩
  go_wp2_with fail
  go_ret2
  have k1 : Keep noBlock w' W3 := (HK.out.1.trans HK.out.2 (fun i hi e => by have := HCB.out; omega)).trans hK3 (fun i hi e => by have := HCB.out; omega)
  have hz := k1.size
  refine ⟨g, cap', rfl, by omega, hcap, ⟨fun i hi => ?_, hRT.lt⟩, k1.trans hK4 (fun _ _ h => h)⟩
  have := hRT.cells i hi
  rw [if_pos hi, if_pos hi] at this
  exact this
end

end Go.Proofs.YtgaepmmpedaaiaaGreatDoor

namespace Go.Proofs.YtgaepmmpedaaiaaGreatDoor
open Go.RowKit Go.Shelf
set_option linter.unusedVariables false

set_option maxHeartbeats 2000000 in
theorem cput_any (b o gc wb : Nat) (K : Kd) (c x : Nat) (L : List (Fin 2)) (w W : World) (h : Coding w b o gc K) (hc : c < K.codes) (hM : Tl.MineT w W wb L) (hx : K.lst c ≤ x) (hx2 : x < 4294967296) (hL : L.length < 1000000000000) :
    Calls Tryz.prog 73 #[.pointer (some ⟨b, o, none⟩), .pointer (some ⟨wb, 0, none⟩), .int .u8 (c : Int), .int .i64 (x : Int)] W fun e W' => e = .returned (.tuple #[]) ∧ Tl.MineT w W' wb (L ++ low (x - K.lst c) (K.ext c)) := by
  have hkW := hM.keep
  obtain ⟨W1, hW1⟩ : ∃ W1, W1 = W.drew := ⟨_, rfl⟩
  have hk1 : Keep noBlock W W1 := by rw [hW1]; exact (Keep.refl _ W).drew
  have h1 := (h.keep hkW (fun h => h) (fun h => h)).keep hk1 (fun h => h) (fun h => h)
  have c1 := h1.least c hc
  have c2 := h1.extra c hc
  have hlt := h.ok.lt c hc
  have hle := h.ok.le
  have hM1 := hM.keeps hk1
  have HP := hid (hM1.put (x - K.lst c) (K.ext c) (by omega) (by omega) hL)
  obtain ⟨l, hl⟩ : ∃ l, l = K.lst c := ⟨_, rfl⟩
  obtain ⟨m, hm⟩ : ∃ m, m = K.ext c := ⟨_, rfl⟩
  rw [← hl] at c1 hlt hx HP ⊢
  rw [← hm] at c2 hlt HP ⊢
  obtain ⟨d, hd⟩ : ∃ d, d = x - l := ⟨_, rfl⟩
  rw [← hd] at HP ⊢
  have hdI : (x : Int) - (l : Int) = (d : Int) := by omega
  have hdb : d < 4294967296 := by omega
  have hcI : (c : Int) < 53 := by omega
  have hc53 : c < 53 := by omega
  have hlI : (l : Int) < 4294967296 := by omega
  have hxI : (x : Int) < 4294967296 := by omega
  have hwx : IntKind.u64.wrap (x : Int) = (x : Int) := by rw [IntKind.wrap_u64]; omega
  have hwl : IntKind.u64.wrap (l : Int) = (l : Int) := by rw [IntKind.wrap_u64]; omega
  have hwd : IntKind.u64.wrap (d : Int) = (d : Int) := by rw [IntKind.wrap_u64]; omega
  have hwm : IntKind.i64.wrap (m : Int) = (m : Int) := by rw [IntKind.wrap_i64]; omega
  clear h h1 hM hM1 hkW hk1 hlt hle hl hm hd hL
  go_enter Tryz.func73, Tryz.ntmps73
  go_wp2_with fail
  refine region_tail 18 mx (by kernel_rfl) ?_
  rw [← hW1]
  clear hW1
  simp only [List.take_succ_cons, List.take_zero, List.drop_succ_cons, List.drop_zero]
  repeat (quiet_step (fail))
  refine wpQuiet_nil ?_
  go_wp2_with fail
  refine HP.out.mono ?_
  rintro e w2 ⟨rfl, q1⟩
  have HQ := hid q1
  clear q1 HP
  go_wp2_with fail
  go_end0
  exact ⟨rfl, HQ.out⟩

theorem lenN_pow (l : Nat) : lenN (2 ^ l) = l + 1 := lenN_eq _ _ (Nat.le_refl _) (Nat.pow_lt_pow_right (by omega) (by omega))
theorem pow12 {l : Nat} (hl : l ≤ 12) : 2 ^ l ≤ 4096 := Nat.pow_le_pow_right (n := 2) (j := 12) (by omega) hl
theorem logOf_any (a : Option Addr) (n l cap : Nat) (hn : n = 2 ^ l) (hl : l ≤ 12) (w : World) : Calls Tryz.prog 35 #[.slice a n cap] w fun e w' => e = .returned (.int .i64 (l : Int)) ∧ w' = w := by
  have h12 := pow12 hl
  rw [← hn] at h12
  have hnI : (n : Int) ≤ 4096 := by omega
  have HL := hid (len_any n (by omega) w)
  rw [hn, lenN_pow, ← hn] at HL
  obtain ⟨k, hk⟩ : ∃ k, k = l + 1 := ⟨_, rfl⟩
  rw [← hk] at HL
  have hkI : (k : Int) ≤ 64 := by omega
  have hw1 : IntKind.u64.wrap (n : Int) = (n : Int) := by rw [IntKind.wrap_u64]; omega
  have hw2 : (k : Int) - 1 = (l : Int) := by omega
  have hlI : (l : Int) ≤ 12 := by omega
  clear hk hn
  go_enter Tryz.func35, Tryz.ntmps35
  go_wp2_with fail
  refine HL.out.mono ?_
  rintro e w' ⟨rfl, rfl⟩
  go_wp2_with fail
  go_ret
  exact ⟨rfl, rfl⟩
theorem shiftOf_any (v : Nat) (hv : v ≤ 2) (w : World) : Calls Tryz.prog 32 #[.int .i64 (v : Int)] w fun e w' => e = .returned (.int .i64 ((6 - 2 * v : Nat) : Int)) ∧ w' = w := by
  rcases (show v = 0 ∨ v = 1 ∨ v = 2 by omega) with rfl | rfl | rfl
  all_goals
    go_enter Tryz.func32, Tryz.ntmps32
    go_wp2_with fail
    go_ret
    exact ⟨rfl, rfl⟩
set_option maxHeartbeats 1000000 in
theorem valuesOf_any (x y z : Int) (w : World) : Calls Tryz.prog 71 #[.agg #[.int .i64 x, .int .i64 y, .int .i64 z]] w fun e w' => e = .returned (.agg #[.int .i64 x, .int .i64 z, .int .i64 y]) ∧ Keep noBlock w w' := by
  go_enter Tryz.func71, Tryz.ntmps71
  go_wp2_with fail
  refine bodyPost_ret (results_cell rfl _ _ _ ⟨w.heap.size + 1, 0, none⟩ (.agg #[.int .i64 x, .int .i64 z, .int .i64 y]) rfl (run_loadVar_row _ _ 80 80 _ (0, 0) _ ?_ Tryz.underlying80 rfl (by kernel_rfl))) rfl ?_
  · have := alloc_new (w.alloc (.cells #[.int .i64 x, .int .i64 y, .int .i64 z] 42)) (.cells #[.int .i64 x, .int .i64 z, .int .i64 y] 80)
    rw [World.size_alloc] at this
    exact this
  · exact ⟨rfl, ((Keep.refl _ w).alloc _).alloc _⟩
set_option maxHeartbeats 1000000 in
theorem stepOf_any (x y z : Int) (w : World) : Calls Tryz.prog 37 #[.agg #[.int .i64 x, .int .i64 z, .int .i64 y]] w fun e w' => e = .returned (.agg #[.int .i64 x, .int .i64 y, .int .i64 z]) ∧ Keep noBlock w w' := by
  go_enter Tryz.func37, Tryz.ntmps37
  go_wp2_with fail
  refine bodyPost_ret (results_cell rfl _ _ _ ⟨w.heap.size + 1, 0, none⟩ (.agg #[.int .i64 x, .int .i64 y, .int .i64 z]) rfl (run_loadVar_row _ _ 42 42 _ (0, 0) _ ?_ Tryz.underlying42 rfl (by kernel_rfl))) rfl ?_
  · have := alloc_new (w.alloc (.cells #[.int .i64 x, .int .i64 z, .int .i64 y] 80)) (.cells #[.int .i64 x, .int .i64 y, .int .i64 z] 42)
    rw [World.size_alloc] at this
    exact this
  · exact ⟨rfl, ((Keep.refl _ w).alloc _).alloc _⟩
/-- A step that can be told. -/
def tellS (x y z : Int) : Bool := decide (0 ≤ x) && decide (x ≤ 131071) && decide (3 ≤ y) && decide (y ≤ 131074) && decide (1 ≤ z) && decide (z ≤ 268435456)
set_option maxHeartbeats 1000000 in
theorem canBeTold_any (x y z : Int) (w : World) : Calls Tryz.prog 25 #[.agg #[.int .i64 x, .int .i64 y, .int .i64 z]] w fun e w' => e = .returned (.bool (tellS x y z)) ∧ Keep noBlock w w' := by
  unfold tellS
  by_cases h1 : 0 ≤ x
  rotate_left
  · have g1 : decide (0 ≤ x) = false := decide_eq_false h1
    rw [g1]
    go_enter Tryz.func25, Tryz.ntmps25
    go_wp2_with fail
    go_ret
    exact ⟨rfl, (Keep.refl _ w).alloc _⟩
  have g1 : decide (0 ≤ x) = true := decide_eq_true h1
  by_cases h2 : x ≤ 131071
  rotate_left
  · have g2 : decide (x ≤ 131071) = false := decide_eq_false h2
    rw [g1, g2]
    go_enter Tryz.func25, Tryz.ntmps25
    go_wp2_with fail
    go_ret
    exact ⟨rfl, (Keep.refl _ w).alloc _⟩
  have g2 : decide (x ≤ 131071) = true := decide_eq_true h2
  by_cases h3 : 3 ≤ y
  rotate_left
  · have g3 : decide (3 ≤ y) = false := decide_eq_false h3
    rw [g1, g2, g3]
    go_enter Tryz.func25, Tryz.ntmps25
    go_wp2_with fail
    go_ret
    exact ⟨rfl, (Keep.refl _ w).alloc _⟩
  have g3 : decide (3 ≤ y) = true := decide_eq_true h3
  by_cases h4 : y ≤ 131074
  rotate_left
  · have g4 : decide (y ≤ 131074) = false := decide_eq_false h4
    rw [g1, g2, g3, g4]
    go_enter Tryz.func25, Tryz.ntmps25
    go_wp2_with fail
    go_ret
    exact ⟨rfl, (Keep.refl _ w).alloc _⟩
  have g4 : decide (y ≤ 131074) = true := decide_eq_true h4
  by_cases h5 : 1 ≤ z
  rotate_left
  · have g5 : decide (1 ≤ z) = false := decide_eq_false h5
    rw [g1, g2, g3, g4, g5]
    go_enter Tryz.func25, Tryz.ntmps25
    go_wp2_with fail
    go_ret
    exact ⟨rfl, (Keep.refl _ w).alloc _⟩
  have g5 : decide (1 ≤ z) = true := decide_eq_true h5
  by_cases h6 : z ≤ 268435456
  rotate_left
  · have g6 : decide (z ≤ 268435456) = false := decide_eq_false h6
    rw [g1, g2, g3, g4, g5, g6]
    go_enter Tryz.func25, Tryz.ntmps25
    go_wp2_with fail
    go_ret
    exact ⟨rfl, (Keep.refl _ w).alloc _⟩
  have g6 : decide (z ≤ 268435456) = true := decide_eq_true h6
  rw [g1, g2, g3, g4, g5, g6]
  go_enter Tryz.func25, Tryz.ntmps25
  go_wp2_with fail
  go_ret
  exact ⟨rfl, (Keep.refl _ w).alloc _⟩
end Go.Proofs.YtgaepmmpedaaiaaGreatDoor
