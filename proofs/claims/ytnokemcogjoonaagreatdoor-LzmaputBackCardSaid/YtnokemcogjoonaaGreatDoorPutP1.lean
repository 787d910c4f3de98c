/-
  What a call may have turned: 'Keep S w w'': every block of w but those of S lies as it lay. Small facts on blocks and cells that are told whole.
  Slices of bytes: cut, cloned, appended, made, as strings.
  Range coding as plain numbers: chances, a decoder's and an encoder's steps.
  Chances: how they are brought in, what a bit gets of the range, how they learn; of the program and of the document.
  The program's decoder: the next byte is taken, the decoder is brought into order.
-/
import Derived.WalkKit
import Derived.Deep.AppendLies
import Derived.Shelf.Abstract
import Derived.Shelf.RegionOpen
import Derived.WalkSmall
import Derived.WalkLawsBesides
import Derived.BigQuiet
import Derived.BigRegion
import Derived.Deep.QuietTactic
import Derived.Deep.RegionWith
import Derived.Deep.RegionHeld3
import Derived.Deep.RegionLaw
import Derived.Deep.OwnRows
import Derived.Laws.BitsAllLaws
import Derived.Laws.CopyRow
import Derived.Laws.IdiomCopy
import Derived.Test.YtnokemcogjoonaaGreatDoorProg
namespace Go.Proofs.YtnokemcogjoonaaGreatDoor
open Go.RowKit

/-- Every block of w that is none of S lies in w' as it lay. -/
structure Keep (S : Nat → Prop) (w w' : World) : Prop where
  os : w'.os = w.os
  tape : w'.tape = w.tape
  output : w'.output = w.output
  size : w.heap.size ≤ w'.heap.size
  block : ∀ k, k < w.heap.size → ¬ S k → w'.heap[k]? = w.heap[k]?

/-- No block may have turned. -/
def noBlock (_ : Nat) : Prop := False

theorem Keep.refl (S : Nat → Prop) (w : World) : Keep S w w := ⟨rfl, rfl, rfl, Nat.le_refl _, fun _ _ _ => rfl⟩
theorem Keep.mono {S T : Nat → Prop} {w w' : World} (h : Keep S w w') (hst : ∀ k, k < w.heap.size → S k → T k) : Keep T w w' :=
  ⟨h.os, h.tape, h.output, h.size, fun k hk ht => h.block k hk (fun hs => ht (hst k hk hs))⟩
/-- Two steps: the second may turn what is new behind the first. -/
theorem Keep.trans {S T : Nat → Prop} {a b c : World} (h : Keep S a b) (k : Keep T b c) (hst : ∀ i, i < a.heap.size → T i → S i) : Keep S a c :=
  ⟨k.os.trans h.os, k.tape.trans h.tape, k.output.trans h.output, Nat.le_trans h.size k.size, fun i hi hs => (k.block i (Nat.lt_of_lt_of_le hi h.size) (fun ht => hs (hst i hi ht))).trans (h.block i hi hs)⟩
theorem Keep.trans' {S : Nat → Prop} {a b c : World} (h : Keep S a b) (k : Keep S b c) : Keep S a c := h.trans k (fun _ _ h => h)
theorem Keep.drew {S : Nat → Prop} {a w : World} (h : Keep S a w) : Keep S a w.drew := ⟨h.os, h.tape, h.output, h.size, h.block⟩
theorem Keep.alloc {S : Nat → Prop} {a w : World} (h : Keep S a w) (o : Obj) : Keep S a (w.alloc o) :=
  h.trans (T := noBlock) ⟨rfl, rfl, rfl, by simp, fun k hk _ => Below.heap_alloc _ _ _ hk⟩ (fun _ _ h => h.elim)
theorem Keep.setCell {S : Nat → Prop} {a w : World} (h : Keep S a w) {p : Addr} (hp : p.block < a.heap.size → S p.block) (u : Value) : Keep S a (w.setCell p u) :=
  h.trans (T := fun k => k = p.block) ⟨rfl, rfl, rfl, by simp [World.setCell], fun k _ hk => Below.heap_setCell _ _ _ _ hk⟩ (fun i hi e => by subst e; exact hp hi)
theorem Keep.grown {S : Nat → Prop} {a w w' : World} {row : Option Nat} (h : Keep S a w) (hg : w.grownBy w' row) (hr : ∀ k, row = some k → k < a.heap.size → S k) : Keep S a w' :=
  h.trans (T := fun k => row = some k) ⟨hg.os, hg.tape, hg.output, hg.size, fun k hk hn => hg.block k hk (fun e => hn e.symm)⟩ (fun i hi e => hr i e hi)
theorem Keep.below {S : Nat → Prop} {w w' : World} (h : Keep S w w') {B : Nat} (hB : B ≤ w.heap.size) (hS : ∀ k, k < B → ¬ S k) : Below B w w' :=
  ⟨h.os, h.tape, h.output, h.size, fun k hk => h.block k (by omega) (hS k hk)⟩
theorem Keep.of_below {B : Nat} {w w' : World} (h : Below B w w') : Keep (fun k => B ≤ k) w w' :=
  ⟨h.os, h.tape, h.output, h.size, fun k _ hk => h.block k (by omega)⟩
theorem Keep.obj {S : Nat → Prop} {w w' : World} (h : Keep S w w') {b : Nat} {o : Obj} (hb : w.heap[b]? = some o) (hS : ¬ S b) : w'.heap[b]? = some o :=
  (h.block b (Array.getElem?_eq_some_iff.1 hb).1 hS).trans hb
theorem obj_lt {w : World} {b : Nat} {o : Obj} (h : w.heap[b]? = some o) : b < w.heap.size := (Array.getElem?_eq_some_iff.1 h).1
theorem cell_of {w : World} {b : Nat} {cs : Array Value} {t : TypeId} (h : w.heap[b]? = some (.cells cs t (0, 0))) (i : Nat) : w.cell? ⟨b, i, none⟩ = cs[i]? := by simp [World.cell?, h]
theorem frozen_of {w : World} {b : Nat} {cs : Array Value} {t : TypeId} (h : w.heap[b]? = some (.cells cs t (0, 0))) (i : Nat) : w.frozen? ⟨b, i, none⟩ = false := by simp [World.frozen?, h]
theorem set_obj {w : World} {b : Nat} {cs : Array Value} {t : TypeId} (h : w.heap[b]? = some (.cells cs t (0, 0))) (i : Nat) (v : Value) : (w.setCell ⟨b, i, none⟩ v).heap[b]? = some (.cells (cs.setIfInBounds i v) t (0, 0)) := by
  obtain ⟨hlt, hk⟩ := Array.getElem?_eq_some_iff.1 h
  show (w.heap.modify b _)[b]? = _
  rw [Array.getElem?_eq_getElem (by rw [Array.size_modify]; exact hlt), Array.getElem_modify_self, hk]
  rfl
theorem set_far {w : World} {b c : Nat} {o : Obj} (h : w.heap[b]? = some o) (hne : b ≠ c) (i : Nat) (v : Value) : (w.setCell ⟨c, i, none⟩ v).heap[b]? = some o :=
  (Below.heap_setCell _ _ _ _ hne).trans h
theorem alloc_far {w : World} {b : Nat} {o : Obj} (h : w.heap[b]? = some o) (o' : Obj) : (w.alloc o').heap[b]? = some o := (Below.heap_alloc _ _ _ (obj_lt h)).trans h

theorem alloc_new (w : World) (o : Obj) : (w.alloc o).heap[w.heap.size]? = some o := by show (w.heap.push o)[w.heap.size]? = some o; simp

theorem Keep.same {S : Nat → Prop} {a w : World} (h : Keep S a w) {W : World} (e1 : W.heap = w.heap) (e2 : W.os = w.os) (e3 : W.tape = w.tape) (e4 : W.output = w.output) : Keep S a W :=
  ⟨e2.trans h.os, e3.trans h.tape, e4.trans h.output, by rw [e1]; exact h.size, fun k hk hs => by rw [e1]; exact h.block k hk hs⟩
theorem hid {p : Prop} (h : p) : Hid p := h

end Go.Proofs.YtnokemcogjoonaaGreatDoor

namespace Go.Proofs.YtnokemcogjoonaaGreatDoor
open Go.RowKit Go.Shelf
set_option linter.unusedVariables false

theorem info5 : (Tryz.prog.info? 5).map (fun i => (i.zero, i.size, i.bytes)) = some (some (.int .u8 0), 1, 1) := by kernel_rfl

/-- Bytes as values. -/
def u8s (bs : List Nat) : List Value := bs.map (fun b => Value.int .u8 ((b : Nat) : Int))
theorem u8s_length (bs : List Nat) : (u8s bs).length = bs.length := by simp [u8s]
theorem u8s_one (bs : List Nat) : ∀ u ∈ u8s bs, u.oneCell' = true := by
  intro u hu
  simp only [u8s, List.mem_map] at hu
  obtain ⟨b, _, rfl⟩ := hu
  rfl
theorem u8s_at (bs : List Nat) (j : Nat) (hj : j < bs.length) : (u8s bs)[j]? = some (.int .u8 ((bs[j]?.getD 0 : Nat) : Int)) := by
  simp [u8s, hj]

theorem add0 (g j : Nat) : (⟨g, 0, none⟩ : Addr).add j = ⟨g, j, none⟩ := by unfold Addr.add; split <;> simp_all

/-- The slice v reads as the bytes bs. -/
def Src (w : World) (v : Value) (bs : List Nat) : Prop :=
  (v = .slice none 0 0 ∧ bs = []) ∨ ∃ a cap, v = .slice (some a) bs.length cap ∧ a.block < w.heap.size ∧ ∀ j u, (u8s bs)[j]? = some u → w.cell? (a.add j) = some u

theorem Src.of_owns {w : World} {base : Nat} {v : Value} {bs : List Nat} (h : w.ownsRow base 5 1 v bs.length (u8s bs)) : Src w v bs := by
  rcases h.2 with ⟨rfl, h0⟩ | ⟨g, cap, cur, rfl, hb, hg, hr⟩
  · exact .inl ⟨rfl, List.length_eq_zero_iff.1 h0⟩
  · exact .inr ⟨⟨g, 0, none⟩, cap, rfl, obj_lt hg, fun j u hu => h.cells (g := g) rfl j u hu⟩

theorem owns_form {w : World} {base e size n : Nat} {v : Value} {xs : List Value} (h : w.ownsRow base e size v n xs) : ∃ sa cap, v = .slice sa n cap := by
  rcases h.2 with ⟨rfl, rfl⟩ | ⟨g, cap, cur, rfl, _⟩
  · exact ⟨_, _, rfl⟩
  · exact ⟨_, _, rfl⟩

set_option maxHeartbeats 400000 in
/-- slices.Clone of a slice of bytes: the same bytes in memory of its own. -/
theorem clone_any (v : Value) (bs : List Nat) (hlen : bs.length ≤ 140737488355327) (w : World) (h : Src w v bs) :
    Calls Tryz.prog 50 #[v] w fun e w' => ∃ v', e = .returned v' ∧ w'.ownsRow w.heap.size 5 1 v' bs.length (u8s bs) ∧ Keep noBlock w w' ∧ (v' = .slice none 0 0 ↔ v = .slice none 0 0) := by
  obtain ⟨i0, hi, hz0, hz1, hz2⟩ := info_parts info5
  have hmax : bs.length ≤ maxLen := by unfold maxLen; omega
  have heq := fun (w : World) (a : Option Addr) (n c n' c' : Nat) => Lib.run_eql_slice_nil (P := Tryz.prog) w 22 5 a n c n' c' Tryz.underlying22
  rcases h with ⟨rfl, rfl⟩ | ⟨a, cap, rfl, ha, hc⟩
  · go_enter Tryz.func50, Tryz.ntmps50
    go_wp2
    go_ret
    exact ⟨_, rfl, World.ownsRow_nil _ _ _ _, Keep.refl _ _, by simp⟩
  · have hown := World.ownsRow_made (e := 5) (size := 1) (base := w.heap.size) w #[] 0 (Nat.le_refl _) (Nat.zero_le _) rfl
    have hc' : ∀ j u, (u8s bs)[j]? = some u → (w.alloc (.cells #[] 5)).cell? (a.add j) = some u := fun j u hu =>
      (World.cell?_of_block (Below.heap_alloc _ _ _ (by unfold Addr.add; split <;> exact ha))).trans (hc j u hu)
    go_enter Tryz.func50, Tryz.ntmps50
    go_wp2_with (at_builtin; refine wpList_append_own _ rfl _ _ 22 rfl w.heap.size 5 i0 (.int .u8 0) 1 1 Tryz.underlying22 hi hz0 hz1 hz2 rfl (by decide) (.slice (some ⟨w.heap.size, 0, none⟩) 0 0) 0 [] rfl hown a bs.length cap (u8s bs) rfl (by simp [u8s_length]) hc' (u8s_one bs) (by omega) (by omega) (by simp) ?_; intro v' w1 hown' hgrow hnil)
    go_ret
    refine ⟨v', rfl, by simpa using hown', ((Keep.refl _ w).alloc _).grown hgrow (fun k e hk => ?_), by rw [hnil]; simp⟩
    have e' : w.heap.size = k := by simpa [Value.ownBlock] using e
    omega

/-- A store into a row that is owned. -/
theorem owns_set {w : World} {base : Nat} {g n cap : Nat} {bs : List Nat} (h : w.ownsRow base 5 1 (.slice (some ⟨g, 0, none⟩) n cap) n (u8s bs)) (i x : Nat) : (w.setCell ⟨g, i, none⟩ (.int .u8 (x : Int))).ownsRow base 5 1 (.slice (some ⟨g, 0, none⟩) n cap) n (u8s (bs.set i x)) := by
  obtain ⟨h1, h2⟩ := h
  refine ⟨by simpa [u8s] using h1, ?_⟩
  rcases h2 with ⟨e, _⟩ | ⟨g', cap', cur, e, hb, hg, hr1, hr2, hr3, hr4⟩
  · cases e
  · simp only [Value.slice.injEq, Option.some.injEq, Addr.mk.injEq] at e
    obtain ⟨⟨rfl, _⟩, _, rfl⟩ := e
    refine .inr ⟨g, cap, cur.setIfInBounds i (.int .u8 (x : Int)), rfl, hb, set_obj hg i _, hr1, hr2, by simpa using hr3, ?_⟩
    simp only [Array.toList_setIfInBounds, List.take_set, hr4, u8s, List.map_set]

theorem grownBy_set (W : World) (b i : Nat) (v : Value) : W.grownBy (W.setCell ⟨b, i, none⟩ v) (some b) :=
  ⟨rfl, rfl, rfl, by simp [World.setCell], fun k _ hk => Below.heap_setCell _ _ _ k (fun e => hk (by rw [e]))⟩

theorem owns_drew {w : World} {base e size n : Nat} {v : Value} {xs : List Value} (h : w.ownsRow base e size v n xs) : w.drew.ownsRow base e size v n xs := h
/-- A store into another block. -/
theorem owns_far {w : World} {base e size n g cap : Nat} {xs : List Value} (h : w.ownsRow base e size (.slice (some ⟨g, 0, none⟩) n cap) n xs) {b : Nat} (hne : g ≠ b) (i : Nat) (u : Value) : (w.setCell ⟨b, i, none⟩ u).ownsRow base e size (.slice (some ⟨g, 0, none⟩) n cap) n xs :=
  h.kept (grownBy_set w b i u) (.inr (fun e => hne (by simpa [Value.ownBlock] using e)))

theorem owns_ne {w : World} {base n e t : Nat} {v : Value} {xs : List Value} {wb : Nat} {cs : Array Value} (h : w.ownsRow base e 1 v n xs) (ho : w.heap[wb]? = some (.cells cs t (0, 0))) (hte : t ≠ e) : v.ownBlock ≠ some wb := by
  intro hv
  rcases h.2 with ⟨rfl, _⟩ | ⟨g, cap, cur, rfl, _, hg, _⟩
  · cases hv
  · obtain rfl : g = wb := by simpa [Value.ownBlock] using hv
    rw [ho] at hg; simp at hg; exact hte hg.2

/-- The slice operation by a name of one's own. -/
def sliceSem (t : TypeId) (x : Value) (lo hi mx : Option Value) : Sem Value := Instr.slice t x lo hi mx
theorem sliceSem_eq (t : TypeId) (x : Value) (lo hi mx : Option Value) : Instr.slice t x lo hi mx = sliceSem t x lo hi mx := rfl
def maxSem (ats : Array TypeId) (ty : TypeId) (args : Array Value) : Sem Value := Builtin.max_ ats ty args
theorem maxSem_eq (ats : Array TypeId) (ty : TypeId) (args : Array Value) : Builtin.max_ ats ty args = maxSem ats ty args := rfl
theorem maxSem_run (k : IntKind) (ats : Array TypeId) (ty : TypeId) (a b c : Int) (h : c = max a b) (w : World) : (maxSem ats ty #[.int k a, .int k b]).run Tryz.prog w = .ok (.int k c) w := by
  have e : (maxSem ats ty #[.int k a, .int k b]) = pure (.int k (if b > a then b else a)) := rfl
  rw [e, h, show max a b = (if b > a then b else a) from by split <;> omega]
  rfl
def minSem (ats : Array TypeId) (ty : TypeId) (args : Array Value) : Sem Value := Builtin.min_ ats ty args
theorem minSem_eq (ats : Array TypeId) (ty : TypeId) (args : Array Value) : Builtin.min_ ats ty args = minSem ats ty args := rfl
theorem minSem_run (k : IntKind) (ats : Array TypeId) (ty : TypeId) (a b c : Int) (h : c = min a b) (w : World) : (minSem ats ty #[.int k a, .int k b]).run Tryz.prog w = .ok (.int k c) w := by
  have e : (minSem ats ty #[.int k a, .int k b]) = pure (.int k (if b < a then b else a)) := rfl
  rw [e, h, show min a b = (if b < a then b else a) from by split <;> omega]
  rfl

theorem addO (g o j : Nat) : (⟨g, o, none⟩ : Addr).add j = ⟨g, o + j, none⟩ := by unfold Addr.add; split <;> simp_all
/-- Bytes as a string. -/
def strOf (bs : List Nat) : ByteArray := (bs.map (fun b => ((b : Nat) : Int))).foldl (fun r n => r.push (UInt8.ofNat n.toNat)) ByteArray.empty
theorem run_conv {w : World} {v : Value} {bs : List Nat} (h : Src w v bs) : (convert 22 9 v).run Tryz.prog w = .ok (.string (strOf bs)) w := by
  rcases h with ⟨rfl, rfl⟩ | ⟨a, cap, rfl, _, hc⟩
  · rw [run_convert_bytes_string w 22 9 5 none 0 0 Tryz.underlying22 Tryz.underlying5 Tryz.underlying9]
    rfl
  · rw [run_convert_bytes_string w 22 9 5 (some a) bs.length cap Tryz.underlying22 Tryz.underlying5 Tryz.underlying9]
    refine run_bytesToString w a bs.length cap (bs.map (fun b => ((b : Nat) : Int))) ?_
    have := run_loadCells_list (P := Tryz.prog) w a (u8s bs) hc
    rw [u8s_length] at this
    rw [this]
    simp [u8s]

theorem size5 : (Tryz.prog.info? 5).map (·.size) = some 1 := by kernel_rfl
theorem lt_drop {bs : List Nat} (h : ∀ j : Nat, bs[j]?.getD 0 < 256) (k : Nat) : ∀ j : Nat, (bs.drop k)[j]?.getD 0 < 256 := fun j => by
  rw [List.getElem?_drop]; exact h _
theorem lt_take {bs : List Nat} (h : ∀ j : Nat, bs[j]?.getD 0 < 256) (k : Nat) : ∀ j : Nat, (bs.take k)[j]?.getD 0 < 256 := fun j => by
  rw [List.getElem?_take]; split
  · exact h _
  · simp
theorem lt256 {bs : List Nat} (h : ∀ b ∈ bs, b < 256) : ∀ j : Nat, bs[j]?.getD 0 < 256 := fun j => by
  by_cases hj : j < bs.length
  · rw [List.getElem?_eq_getElem hj]; exact h _ (List.getElem_mem _)
  · rw [List.getElem?_eq_none (by omega)]; simp
theorem lt_mem {bs : List Nat} (h : ∀ j : Nat, bs[j]?.getD 0 < 256) : ∀ b ∈ bs, b < 256 := fun b hb => by
  obtain ⟨j, hj, rfl⟩ := List.mem_iff_getElem.1 hb
  have := h j
  rwa [List.getElem?_eq_getElem hj] at this
theorem lt_app {a b : List Nat} (h1 : ∀ j : Nat, a[j]?.getD 0 < 256) (h2 : ∀ j : Nat, b[j]?.getD 0 < 256) : ∀ j : Nat, (a ++ b)[j]?.getD 0 < 256 :=
  lt256 (fun x hx => (List.mem_append.1 hx).elim (lt_mem h1 x) (lt_mem h2 x))
theorem u8s_app (a b : List Nat) : u8s (a ++ b) = u8s a ++ u8s b := by simp [u8s]
theorem u8s_take (a : List Nat) (k : Nat) : (u8s a).take k = u8s (a.take k) := by simp [u8s, List.map_take]
theorem u8s_drop (a : List Nat) (k : Nat) : (u8s a).drop k = u8s (a.drop k) := by simp [u8s, List.map_drop]
theorem u8s_inj {a b : List Nat} (h : u8s a = u8s b) : a = b := by
  unfold u8s at h
  refine List.map_inj_right ?_ |>.1 h
  intro x y e
  simp only [Value.int.injEq, true_and] at e
  omega
theorem keep_setRow {S : Nat → Prop} {a w : World} (h : Keep S a w) (g : Nat) (hg : g < a.heap.size → S g) (cs : Array Value) : Keep S a (w.setRow g cs) :=
  h.trans (T := fun k => k = g) ⟨rfl, rfl, rfl, by simp [World.setRow], fun k _ hk => setRow_other w g k cs hk⟩ (fun i hi e => by subst e; exact hg hi)

/-- The slice reads as the bytes bs. -/
structure Bytes (w : World) (a : Option Addr) (cap gb off : Nat) (bs : List Nat) : Prop where
  at_ : a = some ⟨gb, off, none⟩ ∨ bs = []
  nil : a = none → cap = 0
  cells : ∀ j, j < bs.length → w.cell? ⟨gb, off + j, none⟩ = some (.int .u8 ((bs[j]?.getD 0 : Nat) : Int))
  lt : ∀ j : Nat, bs[j]?.getD 0 < 256
  cap : bs.length ≤ cap
  len : bs.length < 2 ^ 48
theorem Bytes.block {w : World} {a : Option Addr} {cap gb off : Nat} {bs : List Nat} (h : Bytes w a cap gb off bs) (hb : bs ≠ []) : gb < w.heap.size :=
  World.block_lt_of_cell? w ⟨gb, off + 0, none⟩ (h.cells 0 (List.length_pos_iff.2 hb))
theorem Bytes.keep {w w' : World} {S : Nat → Prop} {a : Option Addr} {cap gb off : Nat} {bs : List Nat} (h : Bytes w a cap gb off bs) (hk : Keep S w w') (hS : bs ≠ [] → ¬ S gb) : Bytes w' a cap gb off bs :=
  ⟨h.at_, h.nil, fun j hj => by
    have hne : bs ≠ [] := by rintro rfl; simp at hj
    exact (World.cell?_of_block (hk.block gb (h.block hne) (hS hne))).trans (h.cells j hj), h.lt, h.cap, h.len⟩
/-- What append and copy read. -/
def SrcB (w : World) (v : Value) (bs : List Nat) : Prop := (v = .slice none 0 0 ∧ bs = []) ∨ ∃ a cap, v = .slice (some a) bs.length cap ∧ ∀ j u, (u8s bs)[j]? = some u → w.cell? (a.add j) = some u
theorem Bytes.src {w : World} {a : Option Addr} {cap gb off : Nat} {bs : List Nat} (h : Bytes w a cap gb off bs) : SrcB w (.slice a bs.length cap) bs := by
  cases a with
  | none =>
    have h1 := h.nil rfl
    have h2 := h.cap
    have : bs = [] := List.length_eq_zero_iff.1 (by omega)
    subst this
    exact .inl ⟨by rw [h1]; rfl, rfl⟩
  | some ad =>
    refine .inr ⟨ad, cap, rfl, fun j u hu => ?_⟩
    have hj : j < bs.length := by rw [← u8s_length]; exact (List.getElem?_eq_some_iff.1 hu).1
    rcases h.at_ with e | e
    · cases e
      rw [addO, h.cells j hj, ← u8s_at bs j hj, hu]
    · subst e; simp at hj


theorem run_low5 (a : Option Addr) (len cap k : Nat) (h1 : k ≤ len) (w : World) :
    (sliceSem 22 (.slice a len cap) (some (.int .i64 (k : Int))) none none).run Tryz.prog w = .ok (.slice (if cap = k then a else a.map (fun x => x.add k)) (len - k) (cap - k)) w := by
  obtain ⟨i0, hi, hz0, hz1, hz2⟩ := info_parts info5
  simp [sliceSem, Instr.slice, run_underlying Tryz.underlying22, Instr.sliceBounds, Instr.sliceBound, asIntOf, h1, sizeOf, typeInfo, hi, hz1]
theorem run_high5 (a : Option Addr) (len cap k : Nat) (h1 : k ≤ cap) (w : World) :
    (sliceSem 22 (.slice a len cap) none (some (.int .i64 (k : Int))) none).run Tryz.prog w = .ok (.slice a k cap) w := by
  obtain ⟨i0, hi, hz0, hz1, hz2⟩ := info_parts info5
  have e : (if cap = 0 then a else a.map (fun x => x.add 0)) = a := by
    split
    · rfl
    · cases a <;> simp [Addr.add]
  simp [sliceSem, Instr.slice, run_underlying Tryz.underlying22, Instr.sliceBounds, Instr.sliceBound, asIntOf, h1, sizeOf, typeInfo, hi, e]

theorem Bytes.drop {w : World} {a : Option Addr} {cap gb off : Nat} {bs : List Nat} (h : Bytes w a cap gb off bs) (k : Nat) (hk : k ≤ bs.length) :
    ∃ a' off', (∀ W, (sliceSem 22 (.slice a bs.length cap) (some (.int .i64 (k : Int))) none none).run Tryz.prog W = .ok (.slice a' (bs.drop k).length (cap - k)) W) ∧ Bytes w a' (cap - k) gb off' (bs.drop k) ∧ (bs.drop k ≠ [] → off' = off + k) := by
  have hc := h.cap
  have hl := h.len
  refine ⟨if cap = k then a else a.map (fun x => x.add k), if cap = k then off else off + k, fun W => by rw [run_low5 a bs.length cap k hk W, List.length_drop], ⟨?_, ?_, ?_, lt_drop h.lt k, by rw [List.length_drop]; omega, by rw [List.length_drop]; omega⟩, ?_⟩
  · rcases h.at_ with e | e
    · left
      subst e
      split
      · rfl
      · simp [addO]
    · right; rw [e]; simp
  · intro e
    split at e
    · have := h.nil e; omega
    · rw [Option.map_eq_none_iff] at e
      have := h.nil e; omega
  · intro j hj
    rw [List.length_drop] at hj
    have := h.cells (k + j) (by omega)
    rw [List.getElem?_drop, if_neg (by omega), Nat.add_assoc]
    exact this
  · intro hne
    have : 0 < (bs.drop k).length := List.length_pos_iff.2 hne
    rw [List.length_drop] at this
    rw [if_neg (by omega)]
theorem Bytes.take {w : World} {a : Option Addr} {cap gb off : Nat} {bs : List Nat} (h : Bytes w a cap gb off bs) (k : Nat) (hk : k ≤ bs.length) :
    (∀ W, (sliceSem 22 (.slice a bs.length cap) none (some (.int .i64 (k : Int))) none).run Tryz.prog W = .ok (.slice a (bs.take k).length cap) W) ∧ Bytes w a cap gb off (bs.take k) := by
  have hc := h.cap
  have hl := h.len
  have e : (bs.take k).length = k := by rw [List.length_take]; omega
  refine ⟨fun W => by rw [run_high5 a bs.length cap k (by omega) W, e], ⟨?_, h.nil, ?_, lt_take h.lt k, by omega, by omega⟩⟩
  · rcases h.at_ with e | e
    · exact .inl e
    · right; rw [e]; simp
  · intro j hj
    rw [e] at hj
    rw [List.getElem?_take, if_pos hj]
    exact h.cells j (by omega)

/-- copy into a row, from o on. -/
theorem run_copy_any (w : World) (ty : TypeId) (g o dl dc : Nat) (da : Option Addr) (v : Value) (bs : List Nat) (cur : Array Value) (t : Nat) (hv : SrcB w v bs) (ht : t = min bs.length dl)
    (hda : da = some ⟨g, o, none⟩ ∨ t = 0) (hg : w.heap[g]? = some (.cells cur 5 (0, 0))) (hfit : o + t ≤ cur.size) :
    (Builtin.copy_ #[22, 22] ty #[.slice da dl dc, v]).run Tryz.prog w = .ok (.int .i64 (t : Int)) (w.setRow g (cur.toList.take o ++ u8s (bs.take t) ++ cur.toList.drop (o + t)).toArray) := by
  by_cases h0 : t = 0
  · subst h0
    have e : (cur.toList.take o ++ u8s (bs.take 0) ++ cur.toList.drop (o + 0)).toArray = cur := by simp [u8s]
    rw [e, setRow_self w g cur 5 (0, 0) hg]
    have hmin : Nat.min bs.length dl = 0 := ht.symm
    rcases hv with ⟨rfl, rfl⟩ | ⟨a, cap, rfl, hc⟩
    · exact run_copy_none (P := Tryz.prog) w 22 22 ty 5 da none dl dc 0 0 Tryz.underlying22 size5 (by simp)
    · exact run_copy_none (P := Tryz.prog) w 22 22 ty 5 da (some a) dl dc bs.length cap Tryz.underlying22 size5 hmin
  · rcases hda with rfl | e
    · rcases hv with ⟨rfl, rfl⟩ | ⟨a, cap, rfl, hc⟩
      · simp at ht; omega
      · have hl : (bs.take t).length = t := by rw [List.length_take]; omega
        have := run_copy_row Tryz.prog w 22 22 ty 5 g o dl dc a bs.length cap cur 5 (u8s (bs.take t)) Tryz.underlying22 size5 hg (by rw [u8s_length, hl]; exact ht)
          (fun j u hu => hc j u (by
            rw [← u8s_take] at hu
            rw [List.getElem?_take] at hu
            split at hu
            · exact hu
            · cases hu)) (by rw [u8s_length, hl]; exact hfit) (u8s_one _)
        rw [u8s_length, hl] at this
        exact this
    · exact absurd e h0

/-- append onto a row of one's own, from whatever slice of bytes. -/
theorem run_append_all (w : World) (ty : TypeId) (v : Value) (M bs : List Nat) (hown : w.ownsRow 0 5 1 v M.length (u8s M)) (hlen : M.length + bs.length ≤ 1099511627776) (sv : Value) (h : SrcB w sv bs) :
    ∃ v' w', (Builtin.append_ #[22, 22] ty #[v, sv]).run Tryz.prog w = .ok v' w' ∧ w'.ownsRow 0 5 1 v' (M ++ bs).length (u8s (M ++ bs)) ∧ Keep (fun k => v.ownBlock = some k) w w' ∧ (v'.ownBlock = v.ownBlock ∨ ∃ k, v'.ownBlock = some k ∧ w.heap.size ≤ k) := by
  obtain ⟨i0, hi, hz0, hz1, hz2⟩ := info_parts info5
  have happ : u8s (M ++ bs) = u8s M ++ u8s bs := by simp [u8s]
  rcases h with ⟨rfl, rfl⟩ | ⟨a, c, rfl, hc⟩
  · refine ⟨v, w, ?_, by simpa using hown, Keep.refl _ _, .inl rfl⟩
    rcases hown.2 with ⟨rfl, h0⟩ | ⟨g, cap, cur, rfl, _, hg, hr1, hr2, _⟩
    · simp [Builtin.append_, run_underlying Tryz.underlying22, sizeOf, typeInfo, hi, Builtin.lenOf, go_sem]
    · have hcap : M.length ≤ cap := by omega
      simp [Builtin.append_, run_underlying Tryz.underlying22, sizeOf, typeInfo, hi, Builtin.lenOf, go_sem, hcap]
  · obtain ⟨v', w', hr, h2, h3, h4, h5⟩ := run_append_own_at (P := Tryz.prog) w 0 22 ty 5 i0 (.int .u8 0) 1 1 Tryz.underlying22 hi hz0 hz1 hz2 rfl (by decide) v M.length (u8s M) hown a bs.length c (u8s bs) (by simp [u8s_length]) hc (u8s_one bs) (by unfold maxLen; omega) (by omega) (Nat.zero_le _)
    refine ⟨v', w', hr, by rw [List.length_append, happ]; exact h2, (Keep.refl _ w).grown h3 (fun k e _ => e), ?_⟩
    rcases h5 with e | e
    · exact .inl e
    · exact .inr ⟨_, e, Nat.le_refl _⟩

theorem owns_kept {w w' : World} {S : Nat → Prop} {base : Nat} {v : Value} {n : Nat} {xs : List Value} (h : w.ownsRow base 5 1 v n xs) (hk : Keep S w w') (hS : ∀ g, v.ownBlock = some g → ¬ S g) : w'.ownsRow base 5 1 v n xs := by
  refine ⟨h.1, ?_⟩
  rcases h.2 with ⟨e, h0⟩ | ⟨g, cap, cur, rfl, hb, hg, hr⟩
  · exact .inl ⟨e, h0⟩
  · exact .inr ⟨g, cap, cur, rfl, hb, hk.obj hg (hS g rfl), hr⟩
/-- A row of one's own, as a slice of bytes. -/
theorem bytes_own {w : World} {v : Value} {M : List Nat} (h : w.ownsRow 0 5 1 v M.length (u8s M)) (hlt : ∀ j : Nat, M[j]?.getD 0 < 256) (hl : M.length < 2 ^ 48) : ∃ a cap g, v = .slice a M.length cap ∧ Bytes w a cap g 0 M ∧ (a = none ∧ M = [] ∨ a = some ⟨g, 0, none⟩ ∧ ∃ cur, w.heap[g]? = some (.cells cur 5 (0, 0)) ∧ cur.size = cap ∧ cur.toList.take M.length = u8s M ∧ cap ≤ maxLen) := by
  rcases h.2 with ⟨e, h0⟩ | ⟨g, cap, cur, e, hb, hg, h1, h2, h3, h4⟩
  · have : M = [] := List.length_eq_zero_iff.1 h0
    subst this
    exact ⟨none, 0, 0, e, ⟨.inr rfl, fun _ => rfl, fun j hj => by simp at hj, hlt, Nat.le_refl _, hl⟩, .inl ⟨rfl, rfl⟩⟩
  · subst e
    rw [Nat.mul_one] at h3 h4
    refine ⟨some ⟨g, 0, none⟩, cap, g, rfl, ⟨.inl rfl, (fun e => by cases e), fun j hj => ?_, hlt, h1, hl⟩, .inr ⟨rfl, cur, hg, h3, h4, h2⟩⟩
    have := h.cells (g := g) rfl j _ (u8s_at M j hj)
    rw [add0] at this
    rw [Nat.zero_add]; exact this
theorem owns_mk {w : World} {g cap : Nat} {cur : Array Value} {M : List Nat} (hg : w.heap[g]? = some (.cells cur 5 (0, 0))) (h1 : M.length ≤ cap) (h2 : cap ≤ maxLen) (h3 : cur.size = cap) (h4 : cur.toList.take M.length = u8s M) : w.ownsRow 0 5 1 (.slice (some ⟨g, 0, none⟩) M.length cap) M.length (u8s M) :=
  ⟨by rw [u8s_length, Nat.mul_one], .inr ⟨g, cap, cur, rfl, Nat.zero_le _, hg, h1, h2, by rw [h3, Nat.mul_one], by rw [Nat.mul_one]; exact h4⟩⟩

theorem made_u8 (n : Nat) : madeCells #[.int .u8 0] n = (u8s (List.replicate n 0)).toArray := by
  refine Array.ext (by simp [size_madeCells, u8s]) fun i h1 h2 => ?_
  simp [madeCells, u8s, Nat.mod_one]
/-- make of l bytes, room for c. -/
theorem run_make_u8 (l c : Nat) (hlc : l ≤ c) (hc : c ≤ 281474976710656) (w : World) :
    (Instr.makeSlice 22 (.int .i64 (l : Int)) (.int .i64 (c : Int))).run Tryz.prog w = .ok (.slice (some ⟨w.heap.size, 0, none⟩) l c) (w.alloc (.cells (u8s (List.replicate c 0)).toArray 5)) := by
  obtain ⟨i0, hi, hz0, hz1, hz2⟩ := info_parts info5
  have hr := run_make (P := Tryz.prog) w 22 5 i0 (.int .u8 0) Tryz.underlying22 hi hz0 .i64 .i64 (l : Int) (c : Int) (by omega) (by omega) (by rw [hz2]; omega) (by omega)
  simp only [Int.toNat_natCast, hz1, Nat.mul_one] at hr
  rw [show (Value.int .u8 0).cells = #[.int .u8 0] from rfl, made_u8] at hr
  exact hr

theorem SrcB.keep {w w' : World} {v : Value} {bs : List Nat} (h : SrcB w v bs) (hk : Keep noBlock w w') : SrcB w' v bs := by
  rcases h with h | ⟨a, cap, e, hc⟩
  · exact .inl h
  · exact .inr ⟨a, cap, e, fun j u hu => (World.cell?_of_block (hk.block _ (World.block_lt_of_cell? _ _ (hc j u hu)) (fun h => h))).trans (hc j u hu)⟩
theorem run_convB {w : World} {v : Value} {bs : List Nat} (h : SrcB w v bs) : (convert 22 9 v).run Tryz.prog w = .ok (.string (strOf bs)) w := by
  rcases h with ⟨rfl, rfl⟩ | ⟨a, cap, rfl, hc⟩
  · rw [run_convert_bytes_string w 22 9 5 none 0 0 Tryz.underlying22 Tryz.underlying5 Tryz.underlying9]
    rfl
  · rw [run_convert_bytes_string w 22 9 5 (some a) bs.length cap Tryz.underlying22 Tryz.underlying5 Tryz.underlying9]
    refine run_bytesToString w a bs.length cap (bs.map (fun b => ((b : Nat) : Int))) ?_
    have := run_loadCells_list (P := Tryz.prog) w a (u8s bs) hc
    rw [u8s_length] at this
    rw [this]
    simp [u8s]
/-- Bytes that were laid. -/
theorem bytes_new (w : World) (bs : List Nat) (vs : Array Value) (mk : Nat × Nat) (n : Nat) (hn : n = bs.length) (hv : vs = (u8s bs).toArray) (hl : ∀ j : Nat, bs[j]?.getD 0 < 256) (h48 : bs.length < 2 ^ 48) : Bytes (w.alloc (.cells vs 5 mk)) (some ⟨w.heap.size, 0, none⟩) n w.heap.size 0 bs := by
  subst hn; subst hv
  refine ⟨.inl rfl, (fun e => by cases e), fun j hj => ?_, hl, Nat.le_refl _, h48⟩
  have := alloc_new w (.cells (u8s bs).toArray 5 mk)
  rw [Nat.zero_add]
  simp only [World.cell?, this]
  simpa using u8s_at bs j hj
/-- A row of one's own, as a slice of bytes. -/
theorem owns_bytes {w : World} {v : Value} {M : List Nat} (h : w.ownsRow 0 5 1 v M.length (u8s M)) (hM : ∀ j : Nat, M[j]?.getD 0 < 256) (hl : M.length < 2 ^ 48) : ∃ a cap g, v = .slice a M.length cap ∧ Bytes w a cap g 0 M ∧ ∀ k, v.ownBlock = some k → k = g := by
  obtain ⟨a, cap, g, e, hB, hc⟩ := bytes_own h hM hl
  refine ⟨a, cap, g, e, hB, fun k hk => ?_⟩
  subst e
  rcases hc with ⟨rfl, _⟩ | ⟨rfl, _⟩
  · cases hk
  · simpa [Value.ownBlock] using hk.symm

theorem wpList_append_run {ops : Array Oper} {rest : List Oper} {o : Oper} {a : Go.Act} {Q : Exit → Go.Act → World → Prop} (w : World) (hgd : o.guard = none) (s x : Operand) (t : TypeId)
    (ho : o.op = .call { callee := .builtin .append, args := #[s, x], argTypes := #[t, t] }) (v sv v' : Value) (w' : World) (hs : a.eval s = v) (hx : a.eval x = sv)
    (hr : (Builtin.append_ #[t, t] o.type #[v, sv]).run Tryz.prog w = .ok v' w') (hk : wpList Tryz.prog ops Q rest (a.put o.dst v') w') : wpList Tryz.prog ops Q (o :: rest) a w := by
  refine wpList_plain hgd fun K hK => ?_
  unfold Oper.wp execOp
  simp only [ho, resolve, invoke, builtin, Sem.run_bind, Sem.run_pure, Result.andThen_ok, List.map_toArray, List.map_cons, List.map_nil, hs, hx, hr]
  exact hK _ _ hk
theorem step_append_run {ops : Array Oper} {o : Oper} {a : Go.Act} {K : Go.Act → World → Prop} {Q : Exit → Go.Act → World → Prop} {E : Prop} (w : World) (hgd : o.guard = none) (s x : Operand) (t : TypeId)
    (ho : o.op = .call { callee := .builtin .append, args := #[s, x], argTypes := #[t, t] }) (v sv v' : Value) (w' : World) (hs : a.eval s = v) (hx : a.eval x = sv)
    (hr : (Builtin.append_ #[t, t] o.type #[v, sv]).run Tryz.prog w = .ok v' w') (hk : K (a.put o.dst v') w') : if Region.wanted o (yielded ops a.tmps) = true then Oper.wp Tryz.prog o a w K Q else E := by
  have hw : Region.wanted o (yielded ops a.tmps) = true := by simp [Region.wanted, hgd]
  rw [if_pos hw]
  unfold Oper.wp execOp
  simp only [ho, resolve, invoke, builtin, Sem.run_bind, Sem.run_pure, Result.andThen_ok, List.map_toArray, List.map_cons, List.map_nil, hs, hx, hr]
  exact hk

/-- A byte more, behind a row of one's own. -/
theorem own_push {W : World} {v : Value} {M : List Nat} (h : W.ownsRow 0 5 1 v M.length (u8s M)) (x : Nat) (hl : M.length ≤ 16777216) :
    ∃ v' W', (Builtin.append_ #[22, 22] 22 #[v, .slice (some ⟨W.heap.size, 0, none⟩) 1 1]).run Tryz.prog (W.alloc (.cells #[.int .u8 (x : Int)] 5)) = .ok v' W' ∧ W'.ownsRow 0 5 1 v' (M ++ [x]).length (u8s (M ++ [x])) ∧ Keep (fun k => v.ownBlock = some k) W W' ∧ (v'.ownBlock = v.ownBlock ∨ ∃ k, v'.ownBlock = some k ∧ W.heap.size ≤ k) := by
  have hka : Keep noBlock W (W.alloc (.cells #[.int .u8 (x : Int)] 5)) := (Keep.refl _ W).alloc _
  have hs : SrcB (W.alloc (.cells #[.int .u8 (x : Int)] 5)) (.slice (some ⟨W.heap.size, 0, none⟩) 1 1) [x] := .inr ⟨_, 1, rfl, fun j u hu => by
    have hj : j < 1 := by have := (List.getElem?_eq_some_iff.1 hu).1; rwa [u8s_length] at this
    obtain rfl : j = 0 := by omega
    rw [← hu, addO]
    exact cell_of (alloc_new W _) 0⟩
  obtain ⟨v', W', hr, ho, hk, hm⟩ := run_append_all (W.alloc (.cells #[.int .u8 (x : Int)] 5)) 22 v M [x] (owns_kept h hka (fun _ _ h => h)) (by simp; omega) _ hs
  refine ⟨v', W', hr, ho, (hka.mono (fun _ _ h => h.elim)).trans hk (fun _ _ h => h), ?_⟩
  rcases hm with e | ⟨k, e, hk⟩
  · exact .inl e
  · exact .inr ⟨k, e, by rw [World.size_alloc] at hk; omega⟩

end Go.Proofs.YtnokemcogjoonaaGreatDoor

namespace Go.Proofs.YtnokemcogjoonaaGreatDoor

/-- A chance as it is used. -/
def fairN (p : Nat) : Nat := min (max p 31) 2017
theorem fairN_bd (p : Nat) : 31 ≤ fairN p ∧ fairN p ≤ 2017 := by unfold fairN; omega
/-- What a chance is behind a bit. -/
def learnN (c : Nat) (one : Bool) : Nat := if one then c - c / 32 else c + (2048 - c) / 32
theorem learnN_bd {c : Nat} (one : Bool) (h1 : 31 ≤ c) (h2 : c ≤ 2017) : 31 ≤ learnN c one ∧ learnN c one ≤ 2017 := by
  unfold learnN; split <;> omega
/-- How much of a range is the bit 0's. -/
def boundN (s c : Nat) : Nat := s / 2048 * c
theorem boundN_lt {s c : Nat} (h1 : 31 ≤ c) (h2 : c ≤ 2017) (hs : 16777216 ≤ s) : 253952 ≤ boundN s c ∧ boundN s c + 253952 ≤ s := by
  have a1 : s / 2048 * 31 ≤ s / 2048 * c := Nat.mul_le_mul_left _ h1
  have a2 : s / 2048 * c ≤ s / 2048 * 2017 := Nat.mul_le_mul_left _ h2
  unfold boundN
  omega
theorem boundN_le {s c : Nat} (h2 : c ≤ 2017) : boundN s c ≤ s := by
  have a2 : s / 2048 * c ≤ s / 2048 * 2017 := Nat.mul_le_mul_left _ h2
  unfold boundN
  omega
theorem boundN_32 {s c : Nat} (h2 : c ≤ 2017) (hs : s < 4294967296) : boundN s c < 4294967296 := by
  have := boundN_le (s := s) h2; omega

/-- A decoder: its range, its code, what is not taken yet, whether bytes were wanting. -/
structure Dec where
  span : Nat
  code : Nat
  rest : List Nat
  want : Bool
/-- The next byte moves into the code. -/
def takeD (d : Dec) : Dec := match d.rest with
  | [] => ⟨d.span, d.code * 256 % 4294967296, [], true⟩
  | x :: r => ⟨d.span, (d.code * 256 + x) % 4294967296, r, d.want⟩
/-- Brought into order. -/
def ordD (d : Dec) : Dec := if d.span < 16777216 then takeD { d with span := d.span * 256 } else d
/-- A bit by a chance: of an ordered decoder. -/
def oneD (d : Dec) (c : Nat) : Bool := !decide (d.code < boundN d.span c)
def narD (d : Dec) (c : Nat) : Dec := if oneD d c then { d with span := d.span - boundN d.span c, code := d.code - boundN d.span c } else { d with span := boundN d.span c }
/-- A bit, each as likely. -/
def topD (d : Dec) : Bool := decide (d.span / 2 ≤ d.code)
def halfD (d : Dec) : Dec := if topD d then { d with span := d.span / 2, code := d.code - d.span / 2 } else { d with span := d.span / 2 }
/-- k bits more, of which x are read. -/
def dirD : Nat → Dec → Nat → Dec × Nat
  | 0, d, x => (d, x)
  | k + 1, d, x => dirD k (halfD (ordD d)) (x * 2 + if topD (ordD d) then 1 else 0)
/-- How many bits are meant. -/
def bitsN (n : Int) : Nat := (min (max n 0) 32).toNat
theorem bitsN_le (n : Int) : bitsN n ≤ 32 := by unfold bitsN; omega
theorem bitsN_int (n : Int) : ((bitsN n : Nat) : Int) = min (max n 0) 32 := by unfold bitsN; omega

structure DecOk (d : Dec) : Prop where
  span : d.span < 4294967296
  code : d.code < 4294967296
theorem takeD_ok {d : Dec} (h : DecOk d) : DecOk (takeD d) := by
  unfold takeD
  split
  · exact ⟨h.span, Nat.mod_lt _ (by omega)⟩
  · exact ⟨h.span, Nat.mod_lt _ (by omega)⟩
theorem ordD_ok {d : Dec} (h : DecOk d) : DecOk (ordD d) := by
  unfold ordD
  split
  · exact takeD_ok ⟨by show d.span * 256 < _; omega, h.code⟩
  · exact h
theorem narD_ok {d : Dec} (h : DecOk d) {c : Nat} (hc : c ≤ 2017) : DecOk (narD d c) := by
  have h1 := boundN_le (s := d.span) hc
  have := h.span
  have := h.code
  unfold narD
  split
  · exact ⟨by show d.span - _ < _; omega, by show d.code - _ < _; omega⟩
  · exact ⟨by show boundN _ _ < _; omega, h.code⟩
theorem halfD_ok {d : Dec} (h : DecOk d) : DecOk (halfD d) := by
  have := h.span
  have := h.code
  unfold halfD
  split
  · exact ⟨by show d.span / 2 < _; omega, by show d.code - _ < _; omega⟩
  · exact ⟨by show d.span / 2 < _; omega, h.code⟩
theorem dirD_ok (k : Nat) : ∀ {d : Dec} (x : Nat), DecOk d → DecOk (dirD k d x).1 := by
  induction k with
  | zero => exact fun _ h => h
  | succ k ih => exact fun x h => ih _ (halfD_ok (ordD_ok h))
theorem dirD_lt (k : Nat) : ∀ (d : Dec) (x m : Nat), x < 2 ^ m → (dirD k d x).2 < 2 ^ (m + k) := by
  induction k with
  | zero => exact fun _ _ _ h => h
  | succ k ih =>
    intro d x m h
    have := ih (halfD (ordD d)) (x * 2 + if topD (ordD d) then 1 else 0) (m + 1) (by rw [Nat.pow_succ]; split <;> omega)
    rw [show m + (k + 1) = m + 1 + k from by omega]
    exact this

/-- An encoder: low, its range, the byte that waits, how many wait, what went out. -/
structure Enc where
  low : Nat
  span : Nat
  first : Nat
  wait : Nat
  out : List Nat
/-- What goes out of a byte that waits and those behind it. -/
def flushL (first wait carry : Nat) : List Nat := match wait with
  | 0 => []
  | n + 1 => (first + carry) % 256 :: List.replicate n ((255 + carry) % 256)
def shiftE (e : Enc) : Enc := if e.low / 16777216 = 255 then ⟨e.low % 16777216 * 256, e.span, e.first, e.wait + 1, e.out⟩
  else ⟨e.low % 16777216 * 256, e.span, e.low / 16777216 % 256, 1, e.out ++ flushL e.first e.wait (e.low / 4294967296 % 256)⟩
/-- The range great enough. -/
def normE (e : Enc) : Enc := if e.span < 16777216 then shiftE { e with span := e.span * 256 } else e
/-- Part of the range: o from its beginning on, so wide. -/
def cutE (e : Enc) (o s : Nat) : Enc := normE { e with low := e.low + o, span := s }
def bitE (e : Enc) (c : Nat) (one : Bool) : Enc := if one then cutE e (boundN e.span c) (e.span - boundN e.span c) else cutE e 0 (boundN e.span c)
def halfE (e : Enc) (one : Bool) : Enc := cutE e (if one then e.span / 2 else 0) (e.span / 2)
def dirE (x : Nat) : Nat → Enc → Enc
  | 0, e => e
  | k + 1, e => dirE x k (halfE e (x / 2 ^ k % 2 == 1))
def closeE (e : Enc) : Enc := shiftE (shiftE (shiftE (shiftE (shiftE e))))
def newE : Enc := ⟨0, 4294967295, 0, 1, []⟩

structure EncOk (e : Enc) : Prop where
  s1 : 16777216 ≤ e.span
  s2 : e.span < 4294967296
  low : e.low + e.span ≤ 8589934592
  first : e.first < 256
  wait : 1 ≤ e.wait
  out : ∀ j : Nat, e.out[j]?.getD 0 < 256
theorem getD_app {a b : List Nat} (h1 : ∀ j : Nat, a[j]?.getD 0 < 256) (h2 : ∀ j : Nat, b[j]?.getD 0 < 256) (j : Nat) : (a ++ b)[j]?.getD 0 < 256 := by
  rw [List.getElem?_append]
  split
  · exact h1 j
  · exact h2 _
theorem flushL_lt (first wait carry : Nat) (j : Nat) : (flushL first wait carry)[j]?.getD 0 < 256 := by
  unfold flushL
  cases wait with
  | zero => simp
  | succ n =>
    cases j with
    | zero => simp; omega
    | succ j =>
      simp only [List.getElem?_cons_succ, List.getElem?_replicate]
      split
      · simp; omega
      · simp
theorem flushL_len (first wait carry : Nat) : (flushL first wait carry).length = wait := by
  unfold flushL
  cases wait <;> simp
/-- What a shift wants. -/
structure ShOk (e : Enc) : Prop where
  first : e.first < 256
  wait : 1 ≤ e.wait
  low : e.low < 8589934592
  out : ∀ j : Nat, e.out[j]?.getD 0 < 256
theorem shiftE_sh {e : Enc} (h : ShOk e) : ShOk (shiftE e) := by
  unfold shiftE
  split
  · exact ⟨h.first, by show 1 ≤ e.wait + 1; omega, by show e.low % 16777216 * 256 < _; omega, h.out⟩
  · exact ⟨by show e.low / 16777216 % 256 < _; omega, Nat.le_refl _, by show e.low % 16777216 * 256 < _; omega, getD_app h.out (flushL_lt _ _ _)⟩
theorem EncOk.sh {e : Enc} (h : EncOk e) : ShOk e := ⟨h.first, h.wait, by have := h.low; have := h.s1; omega, h.out⟩
theorem shiftE_span (e : Enc) : (shiftE e).span = e.span := by unfold shiftE; split <;> rfl
theorem shiftE_low (e : Enc) : (shiftE e).low = e.low % 16777216 * 256 := by unfold shiftE; split <;> rfl
/-- How many bytes went out or wait. -/
def manyE (e : Enc) : Nat := e.out.length + e.wait
theorem shiftE_many (e : Enc) : manyE (shiftE e) = manyE e + 1 := by
  unfold shiftE manyE
  split
  · show e.out.length + (e.wait + 1) = _; omega
  · show (e.out ++ flushL e.first e.wait (e.low / 4294967296 % 256)).length + 1 = _
    rw [List.length_append, flushL_len]
theorem cutE_ok {e : Enc} (h : EncOk e) {o s : Nat} (hs : 65536 ≤ s) (ho : o + s ≤ e.span) : EncOk (cutE e o s) := by
  have h1 := h.low
  have h2 := h.s2
  unfold cutE normE
  show EncOk (if s < 16777216 then _ else _)
  split
  · rename_i hlt
    have hsh := shiftE_sh (e := ⟨e.low + o, s * 256, e.first, e.wait, e.out⟩) ⟨h.first, h.wait, by show e.low + o < _; omega, h.out⟩
    refine ⟨?_, ?_, ?_, hsh.first, hsh.wait, hsh.out⟩
    · rw [shiftE_span]; show _ ≤ s * 256; omega
    · rw [shiftE_span]; show s * 256 < _; omega
    · rw [shiftE_span, shiftE_low]; show (e.low + o) % 16777216 * 256 + s * 256 ≤ _; omega
  · rename_i hlt
    exact ⟨by show _ ≤ s; omega, by show s < _; omega, by show e.low + o + s ≤ _; omega, h.first, h.wait, h.out⟩
theorem cutE_many (e : Enc) (o s : Nat) : manyE (cutE e o s) ≤ manyE e + 1 ∧ manyE e ≤ manyE (cutE e o s) := by
  unfold cutE normE
  show manyE (if s < 16777216 then _ else _) ≤ _ ∧ _ ≤ manyE (if s < 16777216 then _ else _)
  split
  · rw [shiftE_many]
    exact ⟨Nat.le_refl _, Nat.le_succ _⟩
  · exact ⟨Nat.le_succ _, Nat.le_refl _⟩
theorem bitE_ok {e : Enc} (h : EncOk e) {c : Nat} (h1 : 31 ≤ c) (h2 : c ≤ 2017) (one : Bool) : EncOk (bitE e c one) := by
  have := boundN_lt h1 h2 h.s1
  unfold bitE
  split
  · exact cutE_ok h (by omega) (by omega)
  · exact cutE_ok h (by omega) (by omega)
theorem halfE_ok {e : Enc} (h : EncOk e) (one : Bool) : EncOk (halfE e one) := by
  have := h.s1
  unfold halfE
  exact cutE_ok h (by omega) (by split <;> omega)
theorem bitE_many (e : Enc) (c : Nat) (one : Bool) : manyE (bitE e c one) ≤ manyE e + 1 := by
  unfold bitE
  split <;> exact (cutE_many e _ _).1
theorem halfE_many (e : Enc) (one : Bool) : manyE (halfE e one) ≤ manyE e + 1 := (cutE_many e _ _).1
theorem dirE_ok (x k : Nat) : ∀ {e : Enc}, EncOk e → EncOk (dirE x k e) := by
  induction k with
  | zero => exact fun h => h
  | succ k ih => exact fun h => ih (halfE_ok h _)
theorem dirE_many (x k : Nat) : ∀ (e : Enc), manyE (dirE x k e) ≤ manyE e + k := by
  induction k with
  | zero => exact fun _ => Nat.le_refl _
  | succ k ih =>
    intro e
    have h1 := ih (halfE e (x / 2 ^ k % 2 == 1))
    have h2 := halfE_many e (x / 2 ^ k % 2 == 1)
    show manyE (dirE x k _) ≤ _
    omega
theorem newE_ok : EncOk newE := ⟨by decide, by decide, by decide, by decide, by decide, fun j => by simp [newE]⟩
theorem closeE_sh {e : Enc} (h : EncOk e) : ShOk (closeE e) := shiftE_sh (shiftE_sh (shiftE_sh (shiftE_sh (shiftE_sh h.sh))))
theorem closeE_many (e : Enc) : manyE (closeE e) = manyE e + 5 := by unfold closeE; simp only [shiftE_many]

end Go.Proofs.YtnokemcogjoonaaGreatDoor

namespace Go.Proofs.YtnokemcogjoonaaGreatDoor
open Go.RowKit Go.Shelf
set_option linter.unusedVariables false

section
attribute [local go_sem] maxSem_eq minSem_eq
set_option maxHeartbeats 400000 in
theorem chanceOf_any (p : Nat) (hp : p < 65536) (w : World) : Calls Tryz.prog 109 #[.int .u16 (p : Int)] w fun e w' => e = .returned (.int .u16 ((fairN p : Nat) : Int)) ∧ w' = w := by
  obtain ⟨x, hx⟩ : ∃ x : Int, x = max (p : Int) 31 := ⟨_, rfl⟩
  have h1 := maxSem_run .u16 #[57, 57] 57 (p : Int) 31 x hx
  have h2 := minSem_run .u16 #[57, 57] 57 x 2017 ((fairN p : Nat) : Int) (by unfold fairN; omega)
  clear hx
  go_enter Tryz.func109, Tryz.ntmps109
  go_wp2
  go_ret
  exact ⟨rfl, rfl⟩
set_option maxHeartbeats 400000 in
theorem directBits_any (n : Int) (w : World) : Calls Tryz.prog 137 #[.int .i64 n] w fun e w' => e = .returned (.int .i64 ((bitsN n : Nat) : Int)) ∧ w' = w := by
  obtain ⟨x, hx⟩ : ∃ x : Int, x = max n 0 := ⟨_, rfl⟩
  have h1 := maxSem_run .i64 #[3, 3] 3 n 0 x hx
  have h2 := minSem_run .i64 #[3, 3] 3 x 32 ((bitsN n : Nat) : Int) (by rw [bitsN_int, hx])
  clear hx
  go_enter Tryz.func137, Tryz.ntmps137
  go_wp2
  go_ret
  exact ⟨rfl, rfl⟩
end
theorem bound_i {s c : Nat} : ((s / 2048 : Nat) : Int) * (c : Int) = ((boundN s c : Nat) : Int) := by unfold boundN; simp
set_option maxHeartbeats 400000 in
theorem bound_any (c s : Nat) (hc : c ≤ 2017) (hs : s < 4294967296) (w : World) : Calls Tryz.prog 110 #[.int .u16 (c : Int), .int .u32 (s : Int)] w fun e w' => e = .returned (.int .u32 ((boundN s c : Nat) : Int)) ∧ w' = w := by
  have hb := boundN_32 hc hs
  obtain ⟨q, hq⟩ : ∃ q, q = s / 2048 := ⟨_, rfl⟩
  have h1 : (s : Int) / 2048 = (q : Int) := by omega
  have h2 : (q : Int) * (c : Int) = ((boundN s c : Nat) : Int) := by rw [hq]; exact bound_i
  have h3 : (((boundN s c : Nat) : Int)) % 4294967296 = ((boundN s c : Nat) : Int) := by omega
  generalize boundN s c = B at *
  have hcI : (c : Int) ≤ 2017 := by omega
  clear hq
  go_enter Tryz.func110, Tryz.ntmps110
  go_wp2
  go_ret
  exact ⟨rfl, rfl⟩
theorem learn_zero {c : Nat} (h : c ≤ 2017) : (c : Int) + (2048 - (c : Int)) / 32 = ((learnN c false : Nat) : Int) := by
  unfold learnN
  simp only [if_false, Bool.false_eq_true]
  omega
theorem learn_one {c : Nat} (h : c ≤ 2017) : (c : Int) - (c : Int) / 32 = ((learnN c true : Nat) : Int) := by
  unfold learnN
  simp only [if_true]
  omega
set_option maxHeartbeats 400000 in
theorem learned_any (c : Nat) (b : Int) (one : Bool) (h1 : 31 ≤ c) (h2 : c ≤ 2017) (hb : one = (b != 0)) (w : World) : Calls Tryz.prog 111 #[.int .u16 (c : Int), .int .i64 b] w fun e w' => e = .returned (.int .u16 ((learnN c one : Nat) : Int)) ∧ w' = w := by
  have hcI : (c : Int) ≤ 2017 := by omega
  have hbd := learnN_bd one h1 h2
  cases one with
  | true =>
    have hne : (b == 0) = false := by simpa using hb.symm
    have h := learn_one h2
    have hc5 : (c : Int) / 32 = ((c / 32 : Nat) : Int) := by omega
    have hc6 : c / 32 ≤ 2017 := by omega
    generalize learnN c true = q at *
    generalize c / 32 = z at *
    have HH := (show Hid _ from h)
    clear h
    have hqI : (q : Int) < 65536 := by omega
    clear hb
    go_enter Tryz.func111, Tryz.ntmps111
    go_wp2
    go_ret
    refine ⟨congrArg (fun x => Ending.returned (Value.int .u16 x)) ?_, rfl⟩
    have := HH.out
    clear HH
    omega
  | false =>
    obtain rfl : b = 0 := by simpa using hb.symm
    have h := learn_zero h2
    obtain ⟨z, hz⟩ : ∃ z : Nat, z = (2048 - c) / 32 := ⟨_, rfl⟩
    obtain ⟨y, hy⟩ : ∃ y : Nat, y = 2048 - c := ⟨_, rfl⟩
    have hc4 : (2048 : Int) - (c : Int) = (y : Int) := by omega
    have hc5 : (y : Int) / 32 = (z : Int) := by omega
    have hc6 : z ≤ 2017 := by omega
    have hc7 : y ≤ 2048 := by omega
    rw [hc4, hc5] at h
    generalize learnN c false = q at *
    have HH := (show Hid _ from h)
    clear h hy hz
    have hqI : (q : Int) < 65536 := by omega
    clear hb
    go_enter Tryz.func111, Tryz.ntmps111
    go_wp2
    go_ret
    refine ⟨congrArg (fun x => Ending.returned (Value.int .u16 x)) ?_, rfl⟩
    have := HH.out
    clear HH
    omega
end Go.Proofs.YtnokemcogjoonaaGreatDoor

namespace Go.Proofs.YtnokemcogjoonaaGreatDoor
open Go.RowKit Go.Shelf
set_option linter.unusedVariables false

/-- Block b is a decoder; what is not taken yet lies in block g. -/
structure IsD (w : World) (b g : Nat) (d : Dec) : Prop where
  obj : ∃ a cap off, w.heap[b]? = some (.cells #[.int .u32 (d.span : Int), .int .u32 (d.code : Int), .slice a d.rest.length cap, .bool d.want] 160 (0, 0)) ∧ Bytes w a cap g off d.rest
  ne : g ≠ b
  ok : DecOk d
theorem IsD.keep {w w' : World} {S : Nat → Prop} {b g : Nat} {d : Dec} (h : IsD w b g d) (hk : Keep S w w') (h1 : ¬ S b) (h2 : ¬ S g) : IsD w' b g d := by
  obtain ⟨a, cap, off, ho, hB⟩ := h.obj
  exact ⟨⟨a, cap, off, hk.obj ho h1, hB.keep hk (fun _ => h2)⟩, h.ne, h.ok⟩
theorem u32_join (c x : Nat) (hx : x < 256) : bits .or .u32 (((c * 256 % 4294967296 : Nat)) : Int) (x : Int) = (((c * 256 + x) % 4294967296 : Nat) : Int) := by
  rw [u32_or_nat _ _ (by omega) (by omega), nat_join 8 _ _ (by omega) (by omega)]
  congr 1
  omega

section
attribute [local go_sem] sliceSem_eq
set_option maxHeartbeats 2000000 in
theorem take_any (b g : Nat) (d : Dec) (w : World) (h : IsD w b g d) : Calls Tryz.prog 51 #[.pointer (some ⟨b, 0, none⟩)] w fun e w' => e = .returned (.tuple #[]) ∧ IsD w' b g (takeD d) ∧ Keep (fun k => k = b) w w' := by
  obtain ⟨a, cap, off, ho, hB⟩ := h.obj
  have hne := h.ne
  have hok := takeD_ok h.ok
  have hc := h.ok.code
  obtain ⟨span, code, rest, want⟩ := d
  dsimp only at ho hB hc
  have c1 : w.cell? ⟨b, 1, none⟩ = some (.int .u32 (code : Int)) := cell_of ho 1
  have c2 : w.cell? ⟨b, 2, none⟩ = some (.slice a rest.length cap) := cell_of ho 2
  have c3 : w.cell? ⟨b, 3, none⟩ = some (.bool want) := cell_of ho 3
  have f1 := frozen_of ho 1
  have f2 := frozen_of ho 2
  have f3 := frozen_of ho 3
  have hcI : (code : Int) < 4294967296 := by omega
  obtain ⟨z, hz⟩ : ∃ z : Nat, z = code * 256 % 4294967296 := ⟨_, rfl⟩
  have hzI : (code : Int) * 256 % 4294967296 = (z : Int) := by omega
  have hmx : Tryz.prog.follows .mixedOrders = true := by kernel_rfl
  cases rest with
  | nil =>
    have hj := u32_join code 0 (by omega)
    rw [← hz] at hj
    simp only [Nat.add_zero, List.length_nil] at hj c2 ho hB
    rw [← hz, show (((0 : Nat) : Int)) = (0 : Int) from rfl] at hj
    have HF := (show Hid (IsD ((w.setCell ⟨b, 3, none⟩ (.bool true)).setCell ⟨b, 1, none⟩ (.int .u32 (z : Int))) b g (takeD ⟨span, code, [], want⟩) ∧ Keep (fun k => k = b) w ((w.setCell ⟨b, 3, none⟩ (.bool true)).setCell ⟨b, 1, none⟩ (.int .u32 (z : Int)))) from by
      have hk := ((Keep.refl (fun k => k = b) w).setCell (p := ⟨b, 3, none⟩) (fun _ => rfl) (.bool true)).setCell (p := ⟨b, 1, none⟩) (fun _ => rfl) (.int .u32 (z : Int))
      refine ⟨⟨⟨a, cap, off, ?_, ?_⟩, hne, hok⟩, hk⟩
      · refine (set_obj (set_obj ho 3 _) 1 _).trans ?_
        rw [hz]
        rfl
      · exact hB.keep hk (fun e => absurd rfl e))
    clear hz hok ho hB h hc
    go_enter Tryz.func51, Tryz.ntmps51
    go_wp2_with fail
    go_end0
    exact ⟨rfl, HF.out⟩
  | cons x r =>
    have hx : x < 256 := by have := hB.lt 0; simpa using this
    have hj := u32_join code x hx
    rw [← hz] at hj
    obtain ⟨y, hy⟩ : ∃ y : Nat, y = (code * 256 + x) % 4294967296 := ⟨_, rfl⟩
    rw [← hy] at hj
    obtain ⟨a', off', hsl, hB', -⟩ := hB.drop 1 (by simp)
    rw [show (x :: r).drop 1 = r from rfl] at hsl hB'
    rw [show (((1 : Nat) : Int)) = (1 : Int) from rfl] at hsl
    have hcx : w.cell? ⟨g, off, none⟩ = some (.int .u8 (x : Int)) := by
      have := hB.cells 0 (by simp)
      simpa using this
    obtain rfl : a = some ⟨g, off, none⟩ := by
      rcases hB.at_ with e | e
      · exact e
      · cases e
    have HF := (show Hid (∀ W : World, W.heap = w.heap → W.os = w.os → W.tape = w.tape → W.output = w.output → IsD ((W.setCell ⟨b, 2, none⟩ (.slice a' r.length (cap - 1))).setCell ⟨b, 1, none⟩ (.int .u32 (y : Int))) b g (takeD ⟨span, code, x :: r, want⟩) ∧ Keep (fun k => k = b) w ((W.setCell ⟨b, 2, none⟩ (.slice a' r.length (cap - 1))).setCell ⟨b, 1, none⟩ (.int .u32 (y : Int)))) from by
      intro W e1 e2 e3 e4
      have hk0 : Keep (fun k => k = b) w W := ⟨e2, e3, e4, by rw [e1]; exact Nat.le_refl _, fun k _ _ => by rw [e1]⟩
      have hk := (hk0.setCell (p := ⟨b, 2, none⟩) (fun _ => rfl) (.slice a' r.length (cap - 1))).setCell (p := ⟨b, 1, none⟩) (fun _ => rfl) (.int .u32 (y : Int))
      have ho' := ho
      rw [← e1] at ho'
      refine ⟨⟨⟨a', cap - 1, off', ?_, ?_⟩, hne, hok⟩, hk⟩
      · refine (set_obj (set_obj ho' 2 _) 1 _).trans ?_
        rw [hy]
        rfl
      · exact hB'.keep hk (fun _ e => hne e))
    have hrl : r.length < 2 ^ 48 := hB'.len
    obtain ⟨m, hm⟩ : ∃ m, m = (x :: r).length := ⟨_, rfl⟩
    rw [← hm] at hsl c2
    rw [List.length_cons] at hm
    have hm0 : 0 < m := by omega
    have hl0 : ((m : Int) == 0) = false := by rw [beq_eq_false_iff_ne]; omega
    generalize r.length = n at *
    have hmI : (0 : Int) < (m : Int) := by omega
    have hxI : (x : Int) < 256 := by omega
    clear hz hok ho hB h hB' hy hm hc
    go_enter Tryz.func51, Tryz.ntmps51
    go_wp2_with fail
    go_region
    go_wp2_with fail
    go_end0
    exact ⟨rfl, HF.out w.drew rfl rfl rfl rfl⟩
end

end Go.Proofs.YtnokemcogjoonaaGreatDoor
