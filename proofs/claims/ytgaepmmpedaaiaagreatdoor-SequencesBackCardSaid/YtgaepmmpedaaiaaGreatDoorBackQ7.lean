/-
  Slices of bytes: cut, copied, appended, made, as strings.
  Small facts on worlds.
  Three kept distances: what a back means; Value and Pick.
  A region that draws its order: a head that only reads, and a tail that is forced.
  Value tells a distance and brings it to the front; Pick finds the least back that means it.
  A section's next byte; a section of no steps.
-/
import Derived.Laws.CopyRow
import Derived.Laws.IdiomCopy
import Derived.Deep.OwnRows
import Derived.Shelf.Abstract
import Derived.Shelf.RegionOpen
import Derived.WalkKit
import Derived.WalkSmall
import Derived.WalkLawsBesides
import Derived.BigQuiet
import Derived.Deep.QuietTactic
import Derived.Deep.RegionWith
import Derived.Deep.RegionHeld3
import Derived.Test.YtgaepmmpedaaiaaGreatDoorProg
import Derived.StillTailTactics
import Derived.Laws.Tables
import Derived.Lib.SmallJoins
import Derived.Laws.Rows
import Derived.Test.YtgaepmmpedaaiaaGreatDoorBackQ6
namespace Go.Proofs.YtgaepmmpedaaiaaGreatDoor
open Go.RowKit Go.Shelf
set_option linter.unusedVariables false

theorem size5 : (Tryz.prog.info? 5).map (·.size) = some 1 := by kernel_rfl
theorem lt_drop {bs : List Nat} (h : ∀ j : Nat, bs[j]?.getD 0 < 256) (k : Nat) : ∀ j : Nat, (bs.drop k)[j]?.getD 0 < 256 := fun j => by
  rw [List.getElem?_drop]; exact h _
theorem lt_take {bs : List Nat} (h : ∀ j : Nat, bs[j]?.getD 0 < 256) (k : Nat) : ∀ j : Nat, (bs.take k)[j]?.getD 0 < 256 := fun j => by
  rw [List.getElem?_take]; split
  · exact h _
  · simp
theorem lt256 {bs : List Nat} (h : ∀ b ∈ bs, b < 256) : ∀ j : Nat, bs[j]?.getD 0 < 256 := fun j => by
  by_cases hj : j < bs.length
  · rw [List.getElem?_eq_getElem hj]; exact h _ (List.getElem_mem _)
  · rw [List.getElem?_eq_none (by omega)]; simp
theorem lt_mem {bs : List Nat} (h : ∀ j : Nat, bs[j]?.getD 0 < 256) : ∀ b ∈ bs, b < 256 := fun b hb => by
  obtain ⟨j, hj, rfl⟩ := List.mem_iff_getElem.1 hb
  have := h j
  rwa [List.getElem?_eq_getElem hj] at this
theorem lt_app {a b : List Nat} (h1 : ∀ j : Nat, a[j]?.getD 0 < 256) (h2 : ∀ j : Nat, b[j]?.getD 0 < 256) : ∀ j : Nat, (a ++ b)[j]?.getD 0 < 256 :=
  lt256 (fun x hx => (List.mem_append.1 hx).elim (lt_mem h1 x) (lt_mem h2 x))
theorem u8s_app (a b : List Nat) : u8s (a ++ b) = u8s a ++ u8s b := by simp [u8s]
theorem u8s_take (a : List Nat) (k : Nat) : (u8s a).take k = u8s (a.take k) := by simp [u8s, List.map_take]
theorem u8s_drop (a : List Nat) (k : Nat) : (u8s a).drop k = u8s (a.drop k) := by simp [u8s, List.map_drop]
theorem u8s_inj {a b : List Nat} (h : u8s a = u8s b) : a = b := by
  unfold u8s at h
  refine List.map_inj_right ?_ |>.1 h
  intro x y e
  simp only [Value.int.injEq, true_and] at e
  omega
theorem keep_setRow {S : Nat → Prop} {a w : World} (h : Keep S a w) (g : Nat) (hg : g < a.heap.size → S g) (cs : Array Value) : Keep S a (w.setRow g cs) :=
  h.trans (T := fun k => k = g) ⟨rfl, rfl, rfl, by simp [World.setRow], fun k _ hk => setRow_other w g k cs hk⟩ (fun i hi e => by subst e; exact hg hi)

/-- The slice reads as the bytes bs. -/
structure Bytes (w : World) (a : Option Addr) (cap gb off : Nat) (bs : List Nat) : Prop where
  at_ : a = some ⟨gb, off, none⟩ ∨ bs = []
  nil : a = none → cap = 0
  cells : ∀ j, j < bs.length → w.cell? ⟨gb, off + j, none⟩ = some (.int .u8 ((bs[j]?.getD 0 : Nat) : Int))
  lt : ∀ j : Nat, bs[j]?.getD 0 < 256
  cap : bs.length ≤ cap
  len : bs.length < 2 ^ 48
theorem Bytes.block {w : World} {a : Option Addr} {cap gb off : Nat} {bs : List Nat} (h : Bytes w a cap gb off bs) (hb : bs ≠ []) : gb < w.heap.size :=
  World.block_lt_of_cell? w ⟨gb, off + 0, none⟩ (h.cells 0 (List.length_pos_iff.2 hb))
theorem Bytes.keep {w w' : World} {S : Nat → Prop} {a : Option Addr} {cap gb off : Nat} {bs : List Nat} (h : Bytes w a cap gb off bs) (hk : Keep S w w') (hS : bs ≠ [] → ¬ S gb) : Bytes w' a cap gb off bs :=
  ⟨h.at_, h.nil, fun j hj => by
    have hne : bs ≠ [] := by rintro rfl; simp at hj
    exact (World.cell?_of_block (hk.block gb (h.block hne) (hS hne))).trans (h.cells j hj), h.lt, h.cap, h.len⟩
/-- What append and copy read. -/
def SrcB (w : World) (v : Value) (bs : List Nat) : Prop := (v = .slice none 0 0 ∧ bs = []) ∨ ∃ a cap, v = .slice (some a) bs.length cap ∧ ∀ j u, (u8s bs)[j]? = some u → w.cell? (a.add j) = some u
theorem Bytes.src {w : World} {a : Option Addr} {cap gb off : Nat} {bs : List Nat} (h : Bytes w a cap gb off bs) : SrcB w (.slice a bs.length cap) bs := by
  cases a with
  | none =>
    have h1 := h.nil rfl
    have h2 := h.cap
    have : bs = [] := List.length_eq_zero_iff.1 (by omega)
    subst this
    exact .inl ⟨by rw [h1]; rfl, rfl⟩
  | some ad =>
    refine .inr ⟨ad, cap, rfl, fun j u hu => ?_⟩
    have hj : j < bs.length := by rw [← u8s_length]; exact (List.getElem?_eq_some_iff.1 hu).1
    rcases h.at_ with e | e
    · cases e
      rw [addO, h.cells j hj, ← u8s_at bs j hj, hu]
    · subst e; simp at hj


theorem run_low5 (a : Option Addr) (len cap k : Nat) (h1 : k ≤ len) (w : World) :
    (sliceSem 22 (.slice a len cap) (some (.int .i64 (k : Int))) none none).run Tryz.prog w = .ok (.slice (if cap = k then a else a.map (fun x => x.add k)) (len - k) (cap - k)) w := by
  obtain ⟨i0, hi, hz0, hz1, hz2⟩ := info_parts info5
  simp [sliceSem, Instr.slice, run_underlying Tryz.underlying22, Instr.sliceBounds, Instr.sliceBound, asIntOf, h1, sizeOf, typeInfo, hi, hz1]
theorem run_high5 (a : Option Addr) (len cap k : Nat) (h1 : k ≤ cap) (w : World) :
    (sliceSem 22 (.slice a len cap) none (some (.int .i64 (k : Int))) none).run Tryz.prog w = .ok (.slice a k cap) w := by
  obtain ⟨i0, hi, hz0, hz1, hz2⟩ := info_parts info5
  have e : (if cap = 0 then a else a.map (fun x => x.add 0)) = a := by
    split
    · rfl
    · cases a <;> simp [Addr.add]
  simp [sliceSem, Instr.slice, run_underlying Tryz.underlying22, Instr.sliceBounds, Instr.sliceBound, asIntOf, h1, sizeOf, typeInfo, hi, e]

theorem Bytes.drop {w : World} {a : Option Addr} {cap gb off : Nat} {bs : List Nat} (h : Bytes w a cap gb off bs) (k : Nat) (hk : k ≤ bs.length) :
    ∃ a' off', (∀ W, (sliceSem 22 (.slice a bs.length cap) (some (.int .i64 (k : Int))) none none).run Tryz.prog W = .ok (.slice a' (bs.drop k).length (cap - k)) W) ∧ Bytes w a' (cap - k) gb off' (bs.drop k) ∧ (bs.drop k ≠ [] → off' = off + k) := by
  have hc := h.cap
  have hl := h.len
  refine ⟨if cap = k then a else a.map (fun x => x.add k), if cap = k then off else off + k, fun W => by rw [run_low5 a bs.length cap k hk W, List.length_drop], ⟨?_, ?_, ?_, lt_drop h.lt k, by rw [List.length_drop]; omega, by rw [List.length_drop]; omega⟩, ?_⟩
  · rcases h.at_ with e | e
    · left
      subst e
      split
      · rfl
      · simp [addO]
    · right; rw [e]; simp
  · intro e
    split at e
    · have := h.nil e; omega
    · rw [Option.map_eq_none_iff] at e
      have := h.nil e; omega
  · intro j hj
    rw [List.length_drop] at hj
    have := h.cells (k + j) (by omega)
    rw [List.getElem?_drop, if_neg (by omega), Nat.add_assoc]
    exact this
  · intro hne
    have : 0 < (bs.drop k).length := List.length_pos_iff.2 hne
    rw [List.length_drop] at this
    rw [if_neg (by omega)]
theorem Bytes.take {w : World} {a : Option Addr} {cap gb off : Nat} {bs : List Nat} (h : Bytes w a cap gb off bs) (k : Nat) (hk : k ≤ bs.length) :
    (∀ W, (sliceSem 22 (.slice a bs.length cap) none (some (.int .i64 (k : Int))) none).run Tryz.prog W = .ok (.slice a (bs.take k).length cap) W) ∧ Bytes w a cap gb off (bs.take k) := by
  have hc := h.cap
  have hl := h.len
  have e : (bs.take k).length = k := by rw [List.length_take]; omega
  refine ⟨fun W => by rw [run_high5 a bs.length cap k (by omega) W, e], ⟨?_, h.nil, ?_, lt_take h.lt k, by omega, by omega⟩⟩
  · rcases h.at_ with e | e
    · exact .inl e
    · right; rw [e]; simp
  · intro j hj
    rw [e] at hj
    rw [List.getElem?_take, if_pos hj]
    exact h.cells j (by omega)

/-- copy into a row, from o on. -/
theorem run_copy_any (w : World) (ty : TypeId) (g o dl dc : Nat) (da : Option Addr) (v : Value) (bs : List Nat) (cur : Array Value) (t : Nat) (hv : SrcB w v bs) (ht : t = min bs.length dl)
    (hda : da = some ⟨g, o, none⟩ ∨ t = 0) (hg : w.heap[g]? = some (.cells cur 5 (0, 0))) (hfit : o + t ≤ cur.size) :
    (Builtin.copy_ #[22, 22] ty #[.slice da dl dc, v]).run Tryz.prog w = .ok (.int .i64 (t : Int)) (w.setRow g (cur.toList.take o ++ u8s (bs.take t) ++ cur.toList.drop (o + t)).toArray) := by
  by_cases h0 : t = 0
  · subst h0
    have e : (cur.toList.take o ++ u8s (bs.take 0) ++ cur.toList.drop (o + 0)).toArray = cur := by simp [u8s]
    rw [e, setRow_self w g cur 5 (0, 0) hg]
    have hmin : Nat.min bs.length dl = 0 := ht.symm
    rcases hv with ⟨rfl, rfl⟩ | ⟨a, cap, rfl, hc⟩
    · exact run_copy_none (P := Tryz.prog) w 22 22 ty 5 da none dl dc 0 0 Tryz.underlying22 size5 (by simp)
    · exact run_copy_none (P := Tryz.prog) w 22 22 ty 5 da (some a) dl dc bs.length cap Tryz.underlying22 size5 hmin
  · rcases hda with rfl | e
    · rcases hv with ⟨rfl, rfl⟩ | ⟨a, cap, rfl, hc⟩
      · simp at ht; omega
      · have hl : (bs.take t).length = t := by rw [List.length_take]; omega
        have := run_copy_row Tryz.prog w 22 22 ty 5 g o dl dc a bs.length cap cur 5 (u8s (bs.take t)) Tryz.underlying22 size5 hg (by rw [u8s_length, hl]; exact ht)
          (fun j u hu => hc j u (by
            rw [← u8s_take] at hu
            rw [List.getElem?_take] at hu
            split at hu
            · exact hu
            · cases hu)) (by rw [u8s_length, hl]; exact hfit) (u8s_one _)
        rw [u8s_length, hl] at this
        exact this
    · exact absurd e h0

/-- append onto a row of one's own, from whatever slice of bytes. -/
theorem run_append_all (w : World) (ty : TypeId) (v : Value) (M bs : List Nat) (hown : w.ownsRow 0 5 1 v M.length (u8s M)) (hlen : M.length + bs.length ≤ 1099511627776) (sv : Value) (h : SrcB w sv bs) :
    ∃ v' w', (Builtin.append_ #[22, 22] ty #[v, sv]).run Tryz.prog w = .ok v' w' ∧ w'.ownsRow 0 5 1 v' (M ++ bs).length (u8s (M ++ bs)) ∧ Keep (fun k => v.ownBlock = some k) w w' ∧ (v'.ownBlock = v.ownBlock ∨ ∃ k, v'.ownBlock = some k ∧ w.heap.size ≤ k) := by
  obtain ⟨i0, hi, hz0, hz1, hz2⟩ := info_parts info5
  have happ : u8s (M ++ bs) = u8s M ++ u8s bs := by simp [u8s]
  rcases h with ⟨rfl, rfl⟩ | ⟨a, c, rfl, hc⟩
  · refine ⟨v, w, ?_, by simpa using hown, Keep.refl _ _, .inl rfl⟩
    rcases hown.2 with ⟨rfl, h0⟩ | ⟨g, cap, cur, rfl, _, hg, hr1, hr2, _⟩
    · simp [Builtin.append_, run_underlying Tryz.underlying22, sizeOf, typeInfo, hi, Builtin.lenOf, go_sem]
    · have hcap : M.length ≤ cap := by omega
      simp [Builtin.append_, run_underlying Tryz.underlying22, sizeOf, typeInfo, hi, Builtin.lenOf, go_sem, hcap]
  · obtain ⟨v', w', hr, h2, h3, h4, h5⟩ := run_append_own_at (P := Tryz.prog) w 0 22 ty 5 i0 (.int .u8 0) 1 1 Tryz.underlying22 hi hz0 hz1 hz2 rfl (by decide) v M.length (u8s M) hown a bs.length c (u8s bs) (by simp [u8s_length]) hc (u8s_one bs) (by unfold maxLen; omega) (by omega) (Nat.zero_le _)
    refine ⟨v', w', hr, by rw [List.length_append, happ]; exact h2, (Keep.refl _ w).grown h3 (fun k e _ => e), ?_⟩
    rcases h5 with e | e
    · exact .inl e
    · exact .inr ⟨_, e, Nat.le_refl _⟩

theorem owns_kept {w w' : World} {S : Nat → Prop} {base : Nat} {v : Value} {n : Nat} {xs : List Value} (h : w.ownsRow base 5 1 v n xs) (hk : Keep S w w') (hS : ∀ g, v.ownBlock = some g → ¬ S g) : w'.ownsRow base 5 1 v n xs := by
  refine ⟨h.1, ?_⟩
  rcases h.2 with ⟨e, h0⟩ | ⟨g, cap, cur, rfl, hb, hg, hr⟩
  · exact .inl ⟨e, h0⟩
  · exact .inr ⟨g, cap, cur, rfl, hb, hk.obj hg (hS g rfl), hr⟩
/-- A row of one's own, as a slice of bytes. -/
theorem bytes_own {w : World} {v : Value} {M : List Nat} (h : w.ownsRow 0 5 1 v M.length (u8s M)) (hlt : ∀ j : Nat, M[j]?.getD 0 < 256) (hl : M.length < 2 ^ 48) : ∃ a cap g, v = .slice a M.length cap ∧ Bytes w a cap g 0 M ∧ (a = none ∧ M = [] ∨ a = some ⟨g, 0, none⟩ ∧ ∃ cur, w.heap[g]? = some (.cells cur 5 (0, 0)) ∧ cur.size = cap ∧ cur.toList.take M.length = u8s M ∧ cap ≤ maxLen) := by
  rcases h.2 with ⟨e, h0⟩ | ⟨g, cap, cur, e, hb, hg, h1, h2, h3, h4⟩
  · have : M = [] := List.length_eq_zero_iff.1 h0
    subst this
    exact ⟨none, 0, 0, e, ⟨.inr rfl, fun _ => rfl, fun j hj => by simp at hj, hlt, Nat.le_refl _, hl⟩, .inl ⟨rfl, rfl⟩⟩
  · subst e
    rw [Nat.mul_one] at h3 h4
    refine ⟨some ⟨g, 0, none⟩, cap, g, rfl, ⟨.inl rfl, (fun e => by cases e), fun j hj => ?_, hlt, h1, hl⟩, .inr ⟨rfl, cur, hg, h3, h4, h2⟩⟩
    have := h.cells (g := g) rfl j _ (u8s_at M j hj)
    rw [add0] at this
    rw [Nat.zero_add]; exact this
theorem owns_mk {w : World} {g cap : Nat} {cur : Array Value} {M : List Nat} (hg : w.heap[g]? = some (.cells cur 5 (0, 0))) (h1 : M.length ≤ cap) (h2 : cap ≤ maxLen) (h3 : cur.size = cap) (h4 : cur.toList.take M.length = u8s M) : w.ownsRow 0 5 1 (.slice (some ⟨g, 0, none⟩) M.length cap) M.length (u8s M) :=
  ⟨by rw [u8s_length, Nat.mul_one], .inr ⟨g, cap, cur, rfl, Nat.zero_le _, hg, h1, h2, by rw [h3, Nat.mul_one], by rw [Nat.mul_one]; exact h4⟩⟩

theorem made_u8 (n : Nat) : madeCells #[.int .u8 0] n = (u8s (List.replicate n 0)).toArray := by
  refine Array.ext (by simp [size_madeCells, u8s]) fun i h1 h2 => ?_
  simp [madeCells, u8s, Nat.mod_one]
/-- make of l bytes, room for c. -/
theorem run_make_u8 (l c : Nat) (hlc : l ≤ c) (hc : c ≤ 281474976710656) (w : World) :
    (Instr.makeSlice 22 (.int .i64 (l : Int)) (.int .i64 (c : Int))).run Tryz.prog w = .ok (.slice (some ⟨w.heap.size, 0, none⟩) l c) (w.alloc (.cells (u8s (List.replicate c 0)).toArray 5)) := by
  obtain ⟨i0, hi, hz0, hz1, hz2⟩ := info_parts info5
  have hr := run_make (P := Tryz.prog) w 22 5 i0 (.int .u8 0) Tryz.underlying22 hi hz0 .i64 .i64 (l : Int) (c : Int) (by omega) (by omega) (by rw [hz2]; omega) (by omega)
  simp only [Int.toNat_natCast, hz1, Nat.mul_one] at hr
  rw [show (Value.int .u8 0).cells = #[.int .u8 0] from rfl, made_u8] at hr
  exact hr

theorem SrcB.keep {w w' : World} {v : Value} {bs : List Nat} (h : SrcB w v bs) (hk : Keep noBlock w w') : SrcB w' v bs := by
  rcases h with h | ⟨a, cap, e, hc⟩
  · exact .inl h
  · exact .inr ⟨a, cap, e, fun j u hu => (World.cell?_of_block (hk.block _ (World.block_lt_of_cell? _ _ (hc j u hu)) (fun h => h))).trans (hc j u hu)⟩
theorem run_convB {w : World} {v : Value} {bs : List Nat} (h : SrcB w v bs) : (convert 22 9 v).run Tryz.prog w = .ok (.string (strOf bs)) w := by
  rcases h with ⟨rfl, rfl⟩ | ⟨a, cap, rfl, hc⟩
  · rw [run_convert_bytes_string w 22 9 5 none 0 0 Tryz.underlying22 Tryz.underlying5 Tryz.underlying9]
    rfl
  · rw [run_convert_bytes_string w 22 9 5 (some a) bs.length cap Tryz.underlying22 Tryz.underlying5 Tryz.underlying9]
    refine run_bytesToString w a bs.length cap (bs.map (fun b => ((b : Nat) : Int))) ?_
    have := run_loadCells_list (P := Tryz.prog) w a (u8s bs) hc
    rw [u8s_length] at this
    rw [this]
    simp [u8s]
/-- Bytes that were laid. -/
theorem bytes_new (w : World) (bs : List Nat) (vs : Array Value) (mk : Nat × Nat) (n : Nat) (hn : n = bs.length) (hv : vs = (u8s bs).toArray) (hl : ∀ j : Nat, bs[j]?.getD 0 < 256) (h48 : bs.length < 2 ^ 48) : Bytes (w.alloc (.cells vs 5 mk)) (some ⟨w.heap.size, 0, none⟩) n w.heap.size 0 bs := by
  subst hn; subst hv
  refine ⟨.inl rfl, (fun e => by cases e), fun j hj => ?_, hl, Nat.le_refl _, h48⟩
  have := World.alloc_heap_new w (.cells (u8s bs).toArray 5 mk)
  rw [Nat.zero_add]
  simp only [World.cell?, this]
  simpa using u8s_at bs j hj
/-- A row of one's own, as a slice of bytes. -/
theorem owns_bytes {w : World} {v : Value} {M : List Nat} (h : w.ownsRow 0 5 1 v M.length (u8s M)) (hM : ∀ j : Nat, M[j]?.getD 0 < 256) (hl : M.length < 2 ^ 48) : ∃ a cap g, v = .slice a M.length cap ∧ Bytes w a cap g 0 M ∧ ∀ k, v.ownBlock = some k → k = g := by
  obtain ⟨a, cap, g, e, hB, hc⟩ := bytes_own h hM hl
  refine ⟨a, cap, g, e, hB, fun k hk => ?_⟩
  subst e
  rcases hc with ⟨rfl, _⟩ | ⟨rfl, _⟩
  · cases hk
  · simpa [Value.ownBlock] using hk.symm

end Go.Proofs.YtgaepmmpedaaiaaGreatDoor

namespace Go.Proofs.YtgaepmmpedaaiaaGreatDoor
open Go.RowKit

theorem alloc_new (w : World) (o : Obj) : (w.alloc o).heap[w.heap.size]? = some o := by show (w.heap.push o)[w.heap.size]? = some o; simp
theorem Keep.same {S : Nat → Prop} {a w : World} (h : Keep S a w) {W : World} (e1 : W.heap = w.heap) (e2 : W.os = w.os) (e3 : W.tape = w.tape) (e4 : W.output = w.output) : Keep S a W :=
  ⟨e2.trans h.os, e3.trans h.tape, e4.trans h.output, by rw [e1]; exact h.size, fun k hk hs => by rw [e1]; exact h.block k hk hs⟩
theorem hid {p : Prop} (h : p) : Hid p := h
end Go.Proofs.YtgaepmmpedaaiaaGreatDoor

namespace Go.Proofs.YtgaepmmpedaaiaaGreatDoor
open Go.RowKit Go.Shelf
set_option linter.unusedVariables false

/-- Block b holds three distances. -/
def IsRep (w : World) (b : Nat) (r0 r1 r2 : Int) : Prop := w.heap[b]? = some (.cells #[.int .i64 r0, .int .i64 r1, .int .i64 r2] 80 (0, 0))
theorem IsRep.keep {w w' : World} {S : Nat → Prop} {b : Nat} {r0 r1 r2 : Int} (h : IsRep w b r0 r1 r2) (hk : Keep S w w') (h1 : ¬ S b) : IsRep w' b r0 r1 r2 := hk.obj h h1

/-- Which of the kept ones. -/
def whichN (z : Bool) (back : Nat) : Nat := back - 1 + z.toNat
/-- The distance that is meant: below 1, if there is none. -/
def meantD (r0 r1 r2 : Int) (z : Bool) (back : Nat) : Int :=
  if 3 < back then (back : Int) - 3 else if whichN z back = 0 then r0 else if whichN z back = 1 then r1 else if whichN z back = 2 then r2 else if 1 < r0 then r0 - 1 else 0
/-- How many give way. -/
def meantM (r0 : Int) (z : Bool) (back : Nat) : Nat :=
  if 3 < back then 2 else if whichN z back < 3 then whichN z back else if 1 < r0 then 2 else 0

set_option maxHeartbeats 1000000 in
theorem meant_any (b : Nat) (r0 r1 r2 lits : Int) (back : Nat) (h1 : 1 ≤ back) (h2 : back ≤ 9223372036854775807) (hr : r0 ≤ 9223372036854775807) (w : World) (h : IsRep w b r0 r1 r2) :
    Calls Tryz.prog 46 #[.pointer (some ⟨b, 0, none⟩), .int .i64 lits, .int .i64 (back : Int)] w fun e w' => e = .returned (.tuple #[.int .i64 (meantD r0 r1 r2 (lits == 0) back), .int .i64 ((meantM r0 (lits == 0) back : Nat) : Int)]) ∧ w' = w := by
  have c0 : w.cell? ⟨b, 0, none⟩ = some (.int .i64 r0) := by rw [cell_of h]; rfl
  have c1 : w.cell? ⟨b, 1, none⟩ = some (.int .i64 r1) := by rw [cell_of h]; rfl
  have c2 : w.cell? ⟨b, 2, none⟩ = some (.int .i64 r2) := by rw [cell_of h]; rfl
  by_cases hz : lits = 0
  · subst hz
    rcases (show back = 1 ∨ back = 2 ∨ back = 3 ∨ 3 < back by omega) with rfl | rfl | rfl | hb
    · go_enter Tryz.func46, Tryz.ntmps46
      go_wp2_with fail
      go_ret2
      exact ⟨rfl, rfl⟩
    · go_enter Tryz.func46, Tryz.ntmps46
      go_wp2_with fail
      go_ret2
      exact ⟨rfl, rfl⟩
    · by_cases hr0 : 1 < r0
      · have hd : decide (1 < r0) = true := decide_eq_true hr0
        have hs : wrap64 (r0 - 1) = r0 - 1 := by unfold wrap64; omega
        go_enter Tryz.func46, Tryz.ntmps46
        go_wp2_with fail
        go_ret2
        exact ⟨by simp [meantD, meantM, whichN, hr0], rfl⟩
      · have hd : decide (1 < r0) = false := decide_eq_false hr0
        go_enter Tryz.func46, Tryz.ntmps46
        go_wp2_with fail
        go_ret2
        refine ⟨?_, rfl⟩
        rw [show meantD r0 r1 r2 true 3 = 0 from by unfold meantD; rw [if_neg (by omega), if_neg (by decide), if_neg (by decide), if_neg (by decide), if_neg (by omega)], show meantM r0 true 3 = 0 from by unfold meantM; rw [if_neg (by omega), if_neg (by decide), if_neg (by omega)]]
        rfl
    · go_enter Tryz.func46, Tryz.ntmps46
      go_wp2_with fail
      go_ret2
      exact ⟨by simp [meantD, meantM, hb], rfl⟩
  · have hz' : (lits == 0) = false := by simpa using hz
    rcases (show back = 1 ∨ back = 2 ∨ back = 3 ∨ 3 < back by omega) with rfl | rfl | rfl | hb
    · go_enter Tryz.func46, Tryz.ntmps46
      go_wp2_with fail
      go_ret2
      exact ⟨by rw [hz']; rfl, rfl⟩
    · go_enter Tryz.func46, Tryz.ntmps46
      go_wp2_with fail
      go_ret2
      exact ⟨by rw [hz']; rfl, rfl⟩
    · go_enter Tryz.func46, Tryz.ntmps46
      go_wp2_with fail
      go_ret2
      exact ⟨by rw [hz']; rfl, rfl⟩
    · go_enter Tryz.func46, Tryz.ntmps46
      go_wp2_with fail
      go_ret2
      exact ⟨by simp [meantD, meantM, hb], rfl⟩
end Go.Proofs.YtgaepmmpedaaiaaGreatDoor

namespace Go.Proofs.YtgaepmmpedaaiaaGreatDoor
open Go.RowKit Go.Shelf
set_option linter.unusedVariables false

theorem still_of_quiet {P : Program} {ops : Array Oper} {w : World} {Q : Act → Prop} : ∀ (l : List Oper) (a : Act), wpQuiet P ops (fun w' => w' = w) Q l a → wpStill P ops w Q l a
  | [], _, h => h
  | o :: l, a, h => by
    unfold wpQuiet at h
    unfold wpStill
    split
    · rename_i hw
      rw [if_pos hw] at h
      obtain ⟨v, h1, h2⟩ := h
      have h3 := h1 w rfl
      have h4 := still_of_quiet l _ h2
      unfold Oper.quietAt at h3
      unfold Oper.still
      generalize (execOp a.eval o).run P w = r at *
      cases r with
      | ok n w' =>
        cases n <;> simp only [Oper.quietUpon] at h3 <;> simp only [Oper.stillUpon]
        case value u =>
          obtain ⟨e1, e2⟩ := h3
          rw [e1, e2]
          exact ⟨rfl, h4⟩
        case skip =>
          obtain ⟨e1, e2⟩ := h3
          rw [e2] at h4
          exact ⟨e1, h4⟩
        case enter f args =>
          exact ⟨h3.1, v, h3.2, h4⟩
      | halt x w' => simp only [Oper.quietUpon] at h3
    · rename_i hw
      rw [if_neg hw] at h
      exact still_of_quiet l _ h
theorem region_tail {P : Program} {id : Nat} {Q : Exit → Act → World → Prop} {a : Act} {w : World} {l : List Oper} (n : Nat) (hm : P.follows .mixedOrders = true) (hB : Region.lexTailB .any l.toArray n = true)
    (h : wpQuiet P l.toArray (fun w' => w' = w.drew) (fun a' => wpList P l.toArray Q (l.drop n) a' w.drew) (l.take n) a) : (Code.region id l.toArray true).wp P Q a w :=
  wp_region_still_tail n hm hB (still_of_quiet _ _ h)
theorem mx : Tryz.prog.follows .mixedOrders = true := by kernel_rfl

end Go.Proofs.YtgaepmmpedaaiaaGreatDoor

namespace Go.Proofs.YtgaepmmpedaaiaaGreatDoor
open Go.RowKit Go.Shelf
set_option linter.unusedVariables false

theorem size3 : (Tryz.prog.info? 3).map (·.size) = some 1 := by kernel_rfl
/-- The three behind a copy of the first m one place on. -/
def movedR (r0 r1 r2 : Int) (m : Nat) : Int × Int × Int := if m = 0 then (r0, r1, r2) else if m = 1 then (r0, r0, r2) else (r0, r0, r1)
theorem copy_rep (b m : Nat) (r0 r1 r2 : Int) (hm : m ≤ 2) (w : World) (h : IsRep w b r0 r1 r2) :
    ∃ w', (Builtin.copy_ #[117, 117] 3 #[.slice (some ⟨b, 1, none⟩) m 2, .slice (some ⟨b, 0, none⟩) m 3]).run Tryz.prog w = .ok (.int .i64 (m : Int)) w' ∧ IsRep w' b (movedR r0 r1 r2 m).1 (movedR r0 r1 r2 m).2.1 (movedR r0 r1 r2 m).2.2 ∧ Keep (fun k => k = b) w w' := by
  have hl : (([.int .i64 r0, .int .i64 r1, .int .i64 r2] : List Value).take m).length = m := by rw [List.length_take]; simp; omega
  have hc := run_copy_row Tryz.prog w 117 117 3 3 b 1 m 2 ⟨b, 0, none⟩ m 3 _ 80 (([.int .i64 r0, .int .i64 r1, .int .i64 r2] : List Value).take m) Tryz.underlying117 size3 h (by rw [hl]; show m = min m m; omega)
    (fun j v hv => by
      rw [List.getElem?_take] at hv
      split at hv
      · rw [addO, cell_of h, Nat.zero_add]
        simpa using hv
      · cases hv) (by rw [hl]; show 1 + m ≤ 3; omega) (fun v hv => by
        have := List.mem_of_mem_take hv
        simp at this
        rcases this with rfl | rfl | rfl <;> rfl)
  rw [show goInt (([.int .i64 r0, .int .i64 r1, .int .i64 r2] : List Value).take m).length = .int .i64 (m : Int) from by rw [hl]; rfl, hl] at hc
  refine ⟨_, hc, ?_, keep_setRow (Keep.refl (fun k => k = b) w) b (fun _ => rfl) _⟩
  refine (setRow_heap w b _ _ 80 (0, 0) h).trans ?_
  rcases (show m = 0 ∨ m = 1 ∨ m = 2 by omega) with rfl | rfl | rfl <;> rfl

theorem meantM_le (r0 : Int) (z : Bool) (back : Nat) : meantM r0 z back ≤ 2 := by
  unfold meantM
  split
  · omega
  · split
    · omega
    · split <;> omega

def sliceAtSem (t : TypeId) (x : Value) (lo hi mx : Option Value) : Sem Value := Instr.sliceAt t x lo hi mx
theorem sliceAtSem_eq (t : TypeId) (x : Value) (lo hi mx : Option Value) : Instr.sliceAt t x lo hi mx = sliceAtSem t x lo hi mx := rfl
theorem slice_hi (b m : Nat) (hm : m ≤ 2) (W : World) : (sliceAtSem 80 (.pointer (some ⟨b, 0, none⟩)) (some (.int .i64 1)) (some (.int .i64 ((m : Int) + 1))) none).run Tryz.prog W = .ok (.slice (some ⟨b, 1, none⟩) m 2) W := by
  rcases (show m = 0 ∨ m = 1 ∨ m = 2 by omega) with rfl | rfl | rfl <;> kernel_rfl
theorem slice_lo (b m : Nat) (hm : m ≤ 2) (W : World) : (sliceAtSem 80 (.pointer (some ⟨b, 0, none⟩)) none (some (.int .i64 (m : Int))) none).run Tryz.prog W = .ok (.slice (some ⟨b, 0, none⟩) m 3) W := by
  rcases (show m = 0 ∨ m = 1 ∨ m = 2 by omega) with rfl | rfl | rfl <;> kernel_rfl

section
attribute [local go_sem] sliceAtSem_eq
set_option maxHeartbeats 1000000 in
/-- A back that means a distance. -/
theorem value_ok (b : Nat) (r0 r1 r2 lits : Int) (back : Nat) (h1 : 1 ≤ back) (h2 : back ≤ 9223372036854775807) (hr : r0 ≤ 9223372036854775807) (hd : 1 ≤ meantD r0 r1 r2 (lits == 0) back) (w : World) (h : IsRep w b r0 r1 r2) :
    Calls Tryz.prog 23 #[.pointer (some ⟨b, 0, none⟩), .int .i64 lits, .int .i64 (back : Int)] w fun e w' => e = .returned (.tuple #[.int .i64 (meantD r0 r1 r2 (lits == 0) back), .int .i64 0]) ∧
      IsRep w' b (meantD r0 r1 r2 (lits == 0) back) (movedR r0 r1 r2 (meantM r0 (lits == 0) back)).2.1 (movedR r0 r1 r2 (meantM r0 (lits == 0) back)).2.2 ∧ Keep (fun k => k = b) w w' := by
  have HM := hid (meant_any b r0 r1 r2 lits back h1 h2 hr w h)
  have hm := meantM_le r0 (lits == 0) back
  obtain ⟨W1, hW1⟩ : ∃ W1, W1 = w.drew := ⟨_, rfl⟩
  have hk1 : Keep noBlock w W1 := by rw [hW1]; exact (Keep.refl _ w).drew
  have q1 : IsRep W1 b r0 r1 r2 := h.keep hk1 (fun h => h)
  generalize meantM r0 (lits == 0) back = m at *
  generalize meantD r0 r1 r2 (lits == 0) back = d at *
  obtain ⟨W2, hc, q2, hk2⟩ := copy_rep b m r0 r1 r2 hm W1 q1
  have f2 : W2.cell? ⟨b, 0, none⟩ = some (.int .i64 (movedR r0 r1 r2 m).1) := by rw [cell_of q2]; rfl
  have z2 : W2.frozen? ⟨b, 0, none⟩ = false := frozen_of q2 0
  have HF := (show Hid (IsRep (W2.setCell ⟨b, 0, none⟩ (.int .i64 d)) b d (movedR r0 r1 r2 m).2.1 (movedR r0 r1 r2 m).2.2 ∧ Keep (fun k => k = b) w (W2.setCell ⟨b, 0, none⟩ (.int .i64 d))) from
    ⟨set_obj q2 0 _, ((hk1.mono (T := fun k => k = b) (fun _ _ h => h.elim)).trans hk2 (fun _ _ h => h)).setCell (p := ⟨b, 0, none⟩) (fun _ => rfl) _⟩)
  have hd1 : decide (d < 1) = false := decide_eq_false (by omega)
  have hb1 : decide ((back : Int) < 1) = false := decide_eq_false (by omega)
  have hm1 : IntKind.i64.wrap ((m : Int) + 1) = (m : Int) + 1 := by
    rcases (show m = 0 ∨ m = 1 ∨ m = 2 by omega) with rfl | rfl | rfl <;> rfl
  have hs1 := slice_hi b m hm
  have hs2 := slice_lo b m hm
  have hmw : wrap64 ((m : Int) + 1) = (m : Int) + 1 := by unfold wrap64; omega
  clear q1 q2 hk2 hk1 h hd hm
  go_enter Tryz.func23, Tryz.ntmps23
  go_wp2_with fail
  refine HM.out.mono ?_
  rintro e w' ⟨rfl, rfl⟩
  go_wp2_with fail
  refine region_tail 9 mx (by kernel_rfl) ?_
  rw [← hW1]
  clear hW1
  simp only [List.take_succ_cons, List.take_zero, List.drop_succ_cons, List.drop_zero]
  repeat (quiet_step (fail))
  refine wpQuiet_nil ?_
  go_wp2_with fail
  go_ret2
  exact ⟨rfl, HF.out⟩
end
end Go.Proofs.YtgaepmmpedaaiaaGreatDoor

namespace Go.Proofs.YtgaepmmpedaaiaaGreatDoor
open Go.RowKit Go.Shelf
set_option linter.unusedVariables false

/-- Block sb is a section that has this slice left. -/
def IsSec (w : World) (sb : Nat) (v : Value) : Prop := w.heap[sb]? = some (.cells #[v] 48 (0, 0))
theorem IsSec.keep {w w' : World} {S : Nat → Prop} {sb : Nat} {v : Value} (h : IsSec w sb v) (hk : Keep S w w') (h1 : ¬ S sb) : IsSec w' sb v := hk.obj h h1

theorem next_none (sb : Nat) (a : Option Addr) (cap : Nat) (w : World) (h : IsSec w sb (.slice a 0 cap)) :
    Calls Tryz.prog 28 #[.pointer (some ⟨sb, 0, none⟩)] w fun e w' => e = .returned (.tuple #[.int .i64 0, .bool false]) ∧ w' = w := by
  have c0 : w.cell? ⟨sb, 0, none⟩ = some (.slice a 0 cap) := by rw [cell_of h]; rfl
  go_enter Tryz.func28, Tryz.ntmps28
  go_wp2_with fail
  go_ret2
  exact ⟨rfl, rfl⟩

section
attribute [local go_sem] sliceSem_eq
set_option maxHeartbeats 1000000 in
theorem next_some (sb g o n cap x c' : Nat) (a' : Option Addr) (w : World) (h : IsSec w sb (.slice (some ⟨g, o, none⟩) (n + 1) cap)) (hc : w.cell? ⟨g, o, none⟩ = some (.int .u8 (x : Int))) (hx : x < 256)
    (hsl : ∀ W, (sliceSem 22 (.slice (some ⟨g, o, none⟩) (n + 1) cap) (some (.int .i64 1)) none none).run Tryz.prog W = .ok (.slice a' n c') W) :
    Calls Tryz.prog 28 #[.pointer (some ⟨sb, 0, none⟩)] w fun e w' => e = .returned (.tuple #[.int .i64 (x : Int), .bool true]) ∧ IsSec w' sb (.slice a' n c') ∧ Keep (fun k => k = sb) w w' := by
  obtain ⟨W1, hW1⟩ : ∃ W1, W1 = w.drew := ⟨_, rfl⟩
  have hk1 : Keep noBlock w W1 := by rw [hW1]; exact (Keep.refl _ w).drew
  have h1 : IsSec W1 sb (.slice (some ⟨g, o, none⟩) (n + 1) cap) := h.keep hk1 (fun h => h)
  have hc1 : W1.cell? ⟨g, o, none⟩ = some (.int .u8 (x : Int)) := by rw [hW1]; exact hc
  have c0 : w.cell? ⟨sb, 0, none⟩ = some (.slice (some ⟨g, o, none⟩) (n + 1) cap) := by rw [cell_of h]; rfl
  have c1 : W1.cell? ⟨sb, 0, none⟩ = some (.slice (some ⟨g, o, none⟩) (n + 1) cap) := by rw [cell_of h1]; rfl
  have z1 : W1.frozen? ⟨sb, 0, none⟩ = false := frozen_of h1 0
  have HF := (show Hid (IsSec (W1.setCell ⟨sb, 0, none⟩ (.slice a' n c')) sb (.slice a' n c') ∧ Keep (fun k => k = sb) w (W1.setCell ⟨sb, 0, none⟩ (.slice a' n c'))) from
    ⟨set_obj h1 0 _, (hk1.mono (T := fun k => k = sb) (fun _ _ h => h.elim)).setCell (p := ⟨sb, 0, none⟩) (fun _ => rfl) _⟩)
  have hn : (((n + 1 : Nat) : Int) == 0) = false := by simp; omega
  have hn1 : (0 : Int) < ((n + 1 : Nat) : Int) := by omega
  have hxI : (x : Int) < 256 := by omega
  obtain ⟨N, hN⟩ : ∃ N, N = n + 1 := ⟨_, rfl⟩
  rw [← hN] at hn hn1 c0 c1 hsl
  have hn2 : 0 < N := by omega
  have hxw : IntKind.i64.wrap (x : Int) = (x : Int) := by rw [IntKind.wrap_i64]; omega
  clear h h1 hk1 hc hN
  go_enter Tryz.func28, Tryz.ntmps28
  go_wp2_with fail
  refine region_tail 14 mx (by kernel_rfl) ?_
  rw [← hW1]
  clear hW1
  simp only [List.take_succ_cons, List.take_zero, List.drop_succ_cons, List.drop_zero]
  repeat (quiet_step (fail))
  refine wpQuiet_nil ?_
  go_wp2_with fail
  go_ret2
  exact ⟨rfl, HF.out⟩
end

/-- A first byte below 128 tells the number. -/
theorem number_one (sb g o n cap x c' : Nat) (a' : Option Addr) (w : World) (h : IsSec w sb (.slice (some ⟨g, o, none⟩) (n + 1) cap)) (hc : w.cell? ⟨g, o, none⟩ = some (.int .u8 (x : Int))) (hx : x < 128)
    (hsl : ∀ W, (sliceSem 22 (.slice (some ⟨g, o, none⟩) (n + 1) cap) (some (.int .i64 1)) none none).run Tryz.prog W = .ok (.slice a' n c') W) :
    Calls Tryz.prog 13 #[.pointer (some ⟨sb, 0, none⟩)] w fun e w' => e = .returned (.tuple #[.int .i64 (x : Int), .bool true]) ∧ IsSec w' sb (.slice a' n c') ∧ Keep (fun k => k = sb) w w' := by
  have HN := hid (next_some sb g o n cap x c' a' w h hc (by omega) hsl)
  have hx1 : decide ((x : Int) < 128) = true := decide_eq_true (by omega)
  clear h hc hsl
  go_enter Tryz.func13, Tryz.ntmps13
  go_wp2_with fail
  refine HN.out.mono ?_
  rintro e w' ⟨rfl, h1, h2⟩
  have HF := (show Hid (IsSec w' sb (.slice a' n c') ∧ Keep (fun k => k = sb) w w') from ⟨h1, h2⟩)
  clear h1 h2
  go_wp2_with fail
  go_ret2
  exact ⟨rfl, HF.out⟩

theorem clone_none (w : World) : Calls Tryz.prog 29 #[.slice none 0 0] w fun e w' => e = .returned (.slice none 0 0) ∧ w' = w := by
  have heq := fun (w : World) (a : Option Addr) (n c n' c' : Nat) => Lib.run_eql_slice_nil (P := Tryz.prog) w 24 79 a n c n' c' Tryz.underlying24
  go_enter Tryz.func29, Tryz.ntmps29
  go_wp2_with fail
  go_ret
  exact ⟨rfl, rfl⟩
theorem results_cell {fn : Func} {a : Tmp} {t : TypeId} (h : fn.results = #[.cell a t]) (tmps : Array Value) (P : Program) (w : World) (p : Addr) (v : Value) (ha : tmps[a]?.getD undef = .pointer (some p)) (hv : (loadVar t p).run P w = .ok v w) :
    (results fn tmps).run P w = .ok v w := by
  simp [results, h, ha, asAddr, hv]
theorem results_tct {fn : Func} {x a u : Tmp} {t : TypeId} (h : fn.results = #[.tmp x, .cell a t, .tmp u]) (tmps : Array Value) (P : Program) (w : World) (p : Addr) (v : Value) (ha : tmps[a]?.getD undef = .pointer (some p)) (hv : (loadVar t p).run P w = .ok v w) :
    (results fn tmps).run P w = .ok (.tuple #[tmps.getD x undef, v, tmps.getD u undef]) w := by
  simp [results, h, ha, asAddr, hv]
def noTables : Value := .agg #[.slice none 0 0, .slice none 0 0, .slice none 0 0]
set_option maxHeartbeats 1000000 in
theorem copyOf_none (w : World) : Calls Tryz.prog 14 #[noTables] w fun e w' => e = .returned noTables ∧ Keep noBlock w w' := by
  unfold noTables
  go_enter Tryz.func14, Tryz.ntmps14
  go_wp2_with fail
  refine region_tail 10 mx (by kernel_rfl) ?_
  simp only [List.take_succ_cons, List.take_zero, List.drop_succ_cons, List.drop_zero]
  quiet_step (fail)
  quiet_step (fail)
  refine wpQuiet_step (fun K hK => ?_)
  go_simp
  refine ⟨_, clone_none _, hK _ ?_⟩
  clear hK K
  quiet_step (fail)
  quiet_step (fail)
  refine wpQuiet_step (fun K hK => ?_)
  go_simp
  refine ⟨_, clone_none _, hK _ ?_⟩
  clear hK K
  quiet_step (fail)
  quiet_step (fail)
  refine wpQuiet_step (fun K hK => ?_)
  go_simp
  refine ⟨_, clone_none _, hK _ ?_⟩
  clear hK K
  quiet_step (fail)
  refine wpQuiet_nil ?_
  go_wp2_with fail
  refine bodyPost_ret (results_cell rfl _ _ _ ⟨w.heap.size + 1, 0, none⟩ (.agg #[.slice none 0 0, .slice none 0 0, .slice none 0 0]) rfl (run_loadVar_row _ _ 26 26 _ (0, 0) _ ?_ Tryz.underlying26 rfl (by kernel_rfl))) rfl ?_
  · show ((w.alloc _).alloc _).heap[w.heap.size + 1]? = _
    have := alloc_new (w.alloc (.cells #[.slice none 0 0, .slice none 0 0, .slice none 0 0] 26)) (.cells #[.slice none 0 0, .slice none 0 0, .slice none 0 0] 26)
    rwa [World.size_alloc] at this
  · exact ⟨rfl, (((Keep.refl _ w).alloc _).alloc _).drew⟩

def z3 : Array Value := #[.slice none 0 0, .slice none 0 0, .slice none 0 0]
/-- The worlds in which Read begins: its tables, the answer's tables, the section. -/
structure Begun (w W : World) (b0 b1 b2 : Nat) (v : Value) : Prop where
  o0 : W.heap[b0]? = some (.cells z3 26 (0, 0))
  o1 : W.heap[b1]? = some (.cells z3 26 (0, 0))
  o2 : IsSec W b2 v
  ne1 : b1 ≠ b0
  ne2 : b2 ≠ b0
  ne3 : b2 ≠ b1
  n0 : w.heap.size ≤ b0
  n1 : w.heap.size ≤ b1
  n2 : w.heap.size ≤ b2
  kp : Keep noBlock w W
theorem begun (w : World) (v : Value) : Begun w (((w.alloc (.cells z3 26)).alloc (.cells z3 26)).alloc (.cells #[v] 48)) w.heap.size (w.heap.size + 1) (w.heap.size + 1 + 1) v := by
  have e1 := alloc_new (w.alloc (.cells z3 26)) (.cells z3 26)
  have e2 := alloc_new ((w.alloc (.cells z3 26)).alloc (.cells z3 26)) (.cells #[v] 48)
  rw [World.size_alloc] at e1
  rw [World.size_alloc, World.size_alloc] at e2
  exact ⟨alloc_far (alloc_far (alloc_new w _) _) _, alloc_far e1 _, e2, by omega, by omega, by omega, by omega, by omega, by omega, (((Keep.refl _ w).alloc _).alloc _).alloc _⟩
theorem Begun.next {w W W' : World} {b0 b1 b2 : Nat} {v v' : Value} (h : Begun w W b0 b1 b2 v) (hs : IsSec W' b2 v') (hk : Keep (fun k => k = b2) W W') : Begun w W' b0 b1 b2 v' :=
  ⟨hk.obj h.o0 (fun e => h.ne2 e.symm), hk.obj h.o1 (fun e => h.ne3 e.symm), hs, h.ne1, h.ne2, h.ne3, h.n0, h.n1, h.n2, h.kp.trans hk (fun i hi e => by have := h.n2; omega)⟩

set_option maxHeartbeats 2000000 in
/-- A section 0 of no steps, with nothing behind it. -/
theorem read_nought (g cap : Nat) (w : World) (hc : w.cell? ⟨g, 0, none⟩ = some (.int .u8 0)) (hg : g < w.heap.size) (c' : Nat) (a' : Option Addr)
    (hsl : ∀ W, (sliceSem 22 (.slice (some ⟨g, 0, none⟩) 1 cap) (some (.int .i64 1)) none none).run Tryz.prog W = .ok (.slice a' 0 c') W) :
    Calls Tryz.prog 6 #[.slice (some ⟨g, 0, none⟩) 1 cap, noTables] w fun e w' => e = .returned (.tuple #[.slice none 0 0, noTables, .int .i64 0]) ∧ Keep noBlock w w' := by
  unfold noTables
  have hB := begun w (.slice (some ⟨g, 0, none⟩) 1 cap)
  unfold z3 at hB
  go_enter Tryz.func6, Tryz.ntmps6
  go_wp2_with fail
  generalize ((w.alloc (.cells #[.slice none 0 0, .slice none 0 0, .slice none 0 0] 26)).alloc (.cells #[.slice none 0 0, .slice none 0 0, .slice none 0 0] 26)).alloc (.cells #[.slice (some ⟨g, 0, none⟩) 1 cap] 48) = W at *
  generalize hb0 : w.heap.size = b0 at *
  generalize hb1 : b0 + 1 = b1 at *
  generalize hb2 : b1 + 1 = b2 at *
  have hcW : W.cell? ⟨g, 0, none⟩ = some (.int .u8 ((0 : Nat) : Int)) := (World.cell?_of_block (hB.kp.block g (by omega) (fun h => h))).trans hc
  refine (number_one b2 g 0 0 cap 0 c' a' W hB.o2 hcW (by omega) hsl).mono ?_
  rintro e W1 ⟨rfl, h1, h2⟩
  have hB1 := hB.next h1 h2
  have HB := hid hB1
  have c0 : W1.cell? ⟨b2, 0, none⟩ = some (.slice a' 0 c') := by rw [cell_of h1]; rfl
  have d0 : W1.cell? ⟨b0, 0, none⟩ = some (.slice none 0 0) := by rw [cell_of hB1.o0]; rfl
  have d1 : W1.cell? ⟨b0, 1, none⟩ = some (.slice none 0 0) := by rw [cell_of hB1.o0]; rfl
  have d2 : W1.cell? ⟨b0, 2, none⟩ = some (.slice none 0 0) := by rw [cell_of hB1.o0]; rfl
  rw [show (((0 : Nat) : Int)) = (0 : Int) from rfl]
  have HC := hid copyOf_none
  unfold noTables at HC
  clear hB hB1 h1 h2 hc hcW hsl hb0 hb1 hb2
  go_wp2_with fail
  refine (HC.out _).mono ?_
  rintro e W2 ⟨rfl, k2⟩
  have q1 := k2.obj HB.out.o1 (fun h => h)
  have f0 : W2.frozen? ⟨b1, 0, none⟩ = false := frozen_of q1 0
  have f1 : W2.frozen? ⟨b1, 1, none⟩ = false := frozen_of q1 1
  have f2 : W2.frozen? ⟨b1, 2, none⟩ = false := frozen_of q1 2
  have e0 : W2.cell? ⟨b1, 0, none⟩ = some (.slice none 0 0) := by rw [cell_of q1]; rfl
  have e1 : W2.cell? ⟨b1, 1, none⟩ = some (.slice none 0 0) := by rw [cell_of q1]; rfl
  have e2 : W2.cell? ⟨b1, 2, none⟩ = some (.slice none 0 0) := by rw [cell_of q1]; rfl
  have HQ := hid (And.intro q1 (HB.out.kp.trans k2 (fun _ _ h => h)))
  clear q1 k2 HC
  go_wp2_with fail
  have o3 := set_obj (set_obj (set_obj HQ.out.1 0 (.slice none 0 0)) 1 (.slice none 0 0)) 2 (.slice none 0 0)
  refine bodyPost_ret (results_tct rfl _ _ _ ⟨b1, 0, none⟩ (.agg #[.slice none 0 0, .slice none 0 0, .slice none 0 0]) rfl (run_loadVar_row _ _ 26 26 _ (0, 0) _ o3 Tryz.underlying26 rfl (by kernel_rfl))) rfl ?_
  refine ⟨rfl, ((HQ.out.2.setCell (p := ⟨b1, 0, none⟩) (fun hl => ?_) _).setCell (p := ⟨b1, 1, none⟩) (fun hl => ?_) _).setCell (p := ⟨b1, 2, none⟩) (fun hl => ?_) _⟩ <;> exact absurd hl (by have := HB.out.n1; show ¬ b1 < _; omega)

set_option maxHeartbeats 2000000 in
/-- A section 0 of no steps, with a byte behind it. -/
theorem read_more (g cap : Nat) (w : World) (hc : w.cell? ⟨g, 0, none⟩ = some (.int .u8 0)) (hg : g < w.heap.size) (c' : Nat) (a' : Option Addr)
    (hsl : ∀ W, (sliceSem 22 (.slice (some ⟨g, 0, none⟩) 2 cap) (some (.int .i64 1)) none none).run Tryz.prog W = .ok (.slice a' 1 c') W) :
    Calls Tryz.prog 6 #[.slice (some ⟨g, 0, none⟩) 2 cap, noTables] w fun e w' => e = .returned (.tuple #[.slice none 0 0, noTables, .int .i64 11]) ∧ Keep noBlock w w' := by
  unfold noTables
  have hB := begun w (.slice (some ⟨g, 0, none⟩) 2 cap)
  unfold z3 at hB
  go_enter Tryz.func6, Tryz.ntmps6
  go_wp2_with fail
  generalize ((w.alloc (.cells #[.slice none 0 0, .slice none 0 0, .slice none 0 0] 26)).alloc (.cells #[.slice none 0 0, .slice none 0 0, .slice none 0 0] 26)).alloc (.cells #[.slice (some ⟨g, 0, none⟩) 2 cap] 48) = W at *
  generalize hb0 : w.heap.size = b0 at *
  generalize hb1 : b0 + 1 = b1 at *
  generalize hb2 : b1 + 1 = b2 at *
  have hcW : W.cell? ⟨g, 0, none⟩ = some (.int .u8 ((0 : Nat) : Int)) := (World.cell?_of_block (hB.kp.block g (by omega) (fun h => h))).trans hc
  refine (number_one b2 g 0 1 cap 0 c' a' W hB.o2 hcW (by omega) hsl).mono ?_
  rintro e W1 ⟨rfl, h1, h2⟩
  have hB1 := hB.next h1 h2
  have HB := hid hB1
  have c0 : W1.cell? ⟨b2, 0, none⟩ = some (.slice a' 1 c') := by rw [cell_of h1]; rfl
  have d0 : W1.cell? ⟨b0, 0, none⟩ = some (.slice none 0 0) := by rw [cell_of hB1.o0]; rfl
  have d1 : W1.cell? ⟨b0, 1, none⟩ = some (.slice none 0 0) := by rw [cell_of hB1.o0]; rfl
  have d2 : W1.cell? ⟨b0, 2, none⟩ = some (.slice none 0 0) := by rw [cell_of hB1.o0]; rfl
  rw [show (((0 : Nat) : Int)) = (0 : Int) from rfl]
  clear hB hB1 h1 h2 hc hcW hsl hb0 hb1 hb2
  have q1 := HB.out.o1
  have f0 : W1.frozen? ⟨b1, 0, none⟩ = false := frozen_of q1 0
  have f1 : W1.frozen? ⟨b1, 1, none⟩ = false := frozen_of q1 1
  have f2 : W1.frozen? ⟨b1, 2, none⟩ = false := frozen_of q1 2
  have e0 : W1.cell? ⟨b1, 0, none⟩ = some (.slice none 0 0) := by rw [cell_of q1]; rfl
  have e1 : W1.cell? ⟨b1, 1, none⟩ = some (.slice none 0 0) := by rw [cell_of q1]; rfl
  have e2 : W1.cell? ⟨b1, 2, none⟩ = some (.slice none 0 0) := by rw [cell_of q1]; rfl
  have HQ := hid (And.intro q1 HB.out.kp)
  clear q1
  go_wp2_with fail
  have o3 := set_obj (set_obj (set_obj HQ.out.1 0 (.slice none 0 0)) 1 (.slice none 0 0)) 2 (.slice none 0 0)
  refine bodyPost_ret (results_tct rfl _ _ _ ⟨b1, 0, none⟩ (.agg #[.slice none 0 0, .slice none 0 0, .slice none 0 0]) rfl (run_loadVar_row _ _ 26 26 _ (0, 0) _ o3 Tryz.underlying26 rfl (by kernel_rfl))) rfl ?_
  refine ⟨rfl, ((HQ.out.2.setCell (p := ⟨b1, 0, none⟩) (fun hl => ?_) _).setCell (p := ⟨b1, 1, none⟩) (fun hl => ?_) _).setCell (p := ⟨b1, 2, none⟩) (fun hl => ?_) _⟩ <;> exact absurd hl (by have := HB.out.n1; show ¬ b1 < _; omega)

end Go.Proofs.YtgaepmmpedaaiaaGreatDoor
