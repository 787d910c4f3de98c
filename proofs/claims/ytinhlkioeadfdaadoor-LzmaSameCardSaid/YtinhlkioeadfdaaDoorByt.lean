/-
  Slices of bytes: cut, cloned, appended, made, as strings.
-/
import Derived.Shelf.Abstract
import Derived.Shelf.RegionOpen
import Derived.WalkKit
import Derived.WalkSmall
import Derived.WalkLawsBesides
import Derived.BigQuiet
import Derived.BigRegion
import Derived.Deep.QuietTactic
import Derived.Deep.RegionWith
import Derived.Deep.RegionHeld3
import Derived.Deep.RegionLaw
import Derived.Deep.AppendLies
import Derived.Deep.OwnRows
import Derived.Laws.BitsAllLaws
import Derived.Laws.CopyRow
import Derived.Laws.IdiomCopy
import Derived.Test.YtinhlkioeadfdaaDoorProg
import Derived.Test.YtinhlkioeadfdaaDoorBase
namespace Go.Proofs.YtinhlkioeadfdaaDoor
open Go.RowKit Go.Shelf
set_option linter.unusedVariables false

theorem info5 : (Tryd.prog.info? 5).map (fun i => (i.zero, i.size, i.bytes)) = some (some (.int .u8 0), 1, 1) := by kernel_rfl

/-- Bytes as values. -/
def u8s (bs : List Nat) : List Value := bs.map (fun b => Value.int .u8 ((b : Nat) : Int))
theorem u8s_length (bs : List Nat) : (u8s bs).length = bs.length := by simp [u8s]
theorem u8s_one (bs : List Nat) : ∀ u ∈ u8s bs, u.oneCell' = true := by
  intro u hu
  simp only [u8s, List.mem_map] at hu
  obtain ⟨b, _, rfl⟩ := hu
  rfl
theorem u8s_at (bs : List Nat) (j : Nat) (hj : j < bs.length) : (u8s bs)[j]? = some (.int .u8 ((bs[j]?.getD 0 : Nat) : Int)) := by
  simp [u8s, hj]

theorem add0 (g j : Nat) : (⟨g, 0, none⟩ : Addr).add j = ⟨g, j, none⟩ := by unfold Addr.add; split <;> simp_all

/-- The slice v reads as the bytes bs. -/
def Src (w : World) (v : Value) (bs : List Nat) : Prop :=
  (v = .slice none 0 0 ∧ bs = []) ∨ ∃ a cap, v = .slice (some a) bs.length cap ∧ a.block < w.heap.size ∧ ∀ j u, (u8s bs)[j]? = some u → w.cell? (a.add j) = some u

theorem Src.of_owns {w : World} {base : Nat} {v : Value} {bs : List Nat} (h : w.ownsRow base 5 1 v bs.length (u8s bs)) : Src w v bs := by
  rcases h.2 with ⟨rfl, h0⟩ | ⟨g, cap, cur, rfl, hb, hg, hr⟩
  · exact .inl ⟨rfl, List.length_eq_zero_iff.1 h0⟩
  · exact .inr ⟨⟨g, 0, none⟩, cap, rfl, obj_lt hg, fun j u hu => h.cells (g := g) rfl j u hu⟩

theorem owns_form {w : World} {base e size n : Nat} {v : Value} {xs : List Value} (h : w.ownsRow base e size v n xs) : ∃ sa cap, v = .slice sa n cap := by
  rcases h.2 with ⟨rfl, rfl⟩ | ⟨g, cap, cur, rfl, _⟩
  · exact ⟨_, _, rfl⟩
  · exact ⟨_, _, rfl⟩

set_option maxHeartbeats 400000 in
/-- slices.Clone of a slice of bytes: the same bytes in memory of its own. -/
theorem clone_any (v : Value) (bs : List Nat) (hlen : bs.length ≤ 140737488355327) (w : World) (h : Src w v bs) :
    Calls Tryd.prog 18 #[v] w fun e w' => ∃ v', e = .returned v' ∧ w'.ownsRow w.heap.size 5 1 v' bs.length (u8s bs) ∧ Keep noBlock w w' ∧ (v' = .slice none 0 0 ↔ v = .slice none 0 0) := by
  obtain ⟨i0, hi, hz0, hz1, hz2⟩ := info_parts info5
  have hmax : bs.length ≤ maxLen := by unfold maxLen; omega
  have heq := fun (w : World) (a : Option Addr) (n c n' c' : Nat) => Lib.run_eql_slice_nil (P := Tryd.prog) w 22 5 a n c n' c' Tryd.underlying22
  rcases h with ⟨rfl, rfl⟩ | ⟨a, cap, rfl, ha, hc⟩
  · go_enter Tryd.func18, Tryd.ntmps18
    go_wp2
    go_ret
    exact ⟨_, rfl, World.ownsRow_nil _ _ _ _, Keep.refl _ _, by simp⟩
  · have hown := World.ownsRow_made (e := 5) (size := 1) (base := w.heap.size) w #[] 0 (Nat.le_refl _) (Nat.zero_le _) rfl
    have hc' : ∀ j u, (u8s bs)[j]? = some u → (w.alloc (.cells #[] 5)).cell? (a.add j) = some u := fun j u hu =>
      (World.cell?_of_block (Below.heap_alloc _ _ _ (by unfold Addr.add; split <;> exact ha))).trans (hc j u hu)
    go_enter Tryd.func18, Tryd.ntmps18
    go_wp2_with (at_builtin; refine wpList_append_own _ rfl _ _ 22 rfl w.heap.size 5 i0 (.int .u8 0) 1 1 Tryd.underlying22 hi hz0 hz1 hz2 rfl (by decide) (.slice (some ⟨w.heap.size, 0, none⟩) 0 0) 0 [] rfl hown a bs.length cap (u8s bs) rfl (by simp [u8s_length]) hc' (u8s_one bs) (by omega) (by omega) (by simp) ?_; intro v' w1 hown' hgrow hnil)
    go_ret
    refine ⟨v', rfl, by simpa using hown', ((Keep.refl _ w).alloc _).grown hgrow (fun k e hk => ?_), by rw [hnil]; simp⟩
    have e' : w.heap.size = k := by simpa [Value.ownBlock] using e
    omega

/-- A store into a row that is owned. -/
theorem owns_set {w : World} {base : Nat} {g n cap : Nat} {bs : List Nat} (h : w.ownsRow base 5 1 (.slice (some ⟨g, 0, none⟩) n cap) n (u8s bs)) (i x : Nat) : (w.setCell ⟨g, i, none⟩ (.int .u8 (x : Int))).ownsRow base 5 1 (.slice (some ⟨g, 0, none⟩) n cap) n (u8s (bs.set i x)) := by
  obtain ⟨h1, h2⟩ := h
  refine ⟨by simpa [u8s] using h1, ?_⟩
  rcases h2 with ⟨e, _⟩ | ⟨g', cap', cur, e, hb, hg, hr1, hr2, hr3, hr4⟩
  · cases e
  · simp only [Value.slice.injEq, Option.some.injEq, Addr.mk.injEq] at e
    obtain ⟨⟨rfl, _⟩, _, rfl⟩ := e
    refine .inr ⟨g, cap, cur.setIfInBounds i (.int .u8 (x : Int)), rfl, hb, set_obj hg i _, hr1, hr2, by simpa using hr3, ?_⟩
    simp only [Array.toList_setIfInBounds, List.take_set, hr4, u8s, List.map_set]

theorem grownBy_set (W : World) (b i : Nat) (v : Value) : W.grownBy (W.setCell ⟨b, i, none⟩ v) (some b) :=
  ⟨rfl, rfl, rfl, by simp [World.setCell], fun k _ hk => Below.heap_setCell _ _ _ k (fun e => hk (by rw [e]))⟩

theorem owns_drew {w : World} {base e size n : Nat} {v : Value} {xs : List Value} (h : w.ownsRow base e size v n xs) : w.drew.ownsRow base e size v n xs := h
/-- A store into another block. -/
theorem owns_far {w : World} {base e size n g cap : Nat} {xs : List Value} (h : w.ownsRow base e size (.slice (some ⟨g, 0, none⟩) n cap) n xs) {b : Nat} (hne : g ≠ b) (i : Nat) (u : Value) : (w.setCell ⟨b, i, none⟩ u).ownsRow base e size (.slice (some ⟨g, 0, none⟩) n cap) n xs :=
  h.kept (grownBy_set w b i u) (.inr (fun e => hne (by simpa [Value.ownBlock] using e)))

theorem owns_ne {w : World} {base n e t : Nat} {v : Value} {xs : List Value} {wb : Nat} {cs : Array Value} (h : w.ownsRow base e 1 v n xs) (ho : w.heap[wb]? = some (.cells cs t (0, 0))) (hte : t ≠ e) : v.ownBlock ≠ some wb := by
  intro hv
  rcases h.2 with ⟨rfl, _⟩ | ⟨g, cap, cur, rfl, _, hg, _⟩
  · cases hv
  · obtain rfl : g = wb := by simpa [Value.ownBlock] using hv
    rw [ho] at hg; simp at hg; exact hte hg.2

/-- The slice operation by a name of one's own. -/
def sliceSem (t : TypeId) (x : Value) (lo hi mx : Option Value) : Sem Value := Instr.slice t x lo hi mx
theorem sliceSem_eq (t : TypeId) (x : Value) (lo hi mx : Option Value) : Instr.slice t x lo hi mx = sliceSem t x lo hi mx := rfl
def maxSem (ats : Array TypeId) (ty : TypeId) (args : Array Value) : Sem Value := Builtin.max_ ats ty args
theorem maxSem_eq (ats : Array TypeId) (ty : TypeId) (args : Array Value) : Builtin.max_ ats ty args = maxSem ats ty args := rfl
theorem maxSem_run (k : IntKind) (ats : Array TypeId) (ty : TypeId) (a b c : Int) (h : c = max a b) (w : World) : (maxSem ats ty #[.int k a, .int k b]).run Tryd.prog w = .ok (.int k c) w := by
  have e : (maxSem ats ty #[.int k a, .int k b]) = pure (.int k (if b > a then b else a)) := rfl
  rw [e, h, show max a b = (if b > a then b else a) from by split <;> omega]
  rfl
def minSem (ats : Array TypeId) (ty : TypeId) (args : Array Value) : Sem Value := Builtin.min_ ats ty args
theorem minSem_eq (ats : Array TypeId) (ty : TypeId) (args : Array Value) : Builtin.min_ ats ty args = minSem ats ty args := rfl
theorem minSem_run (k : IntKind) (ats : Array TypeId) (ty : TypeId) (a b c : Int) (h : c = min a b) (w : World) : (minSem ats ty #[.int k a, .int k b]).run Tryd.prog w = .ok (.int k c) w := by
  have e : (minSem ats ty #[.int k a, .int k b]) = pure (.int k (if b < a then b else a)) := rfl
  rw [e, h, show min a b = (if b < a then b else a) from by split <;> omega]
  rfl

theorem addO (g o j : Nat) : (⟨g, o, none⟩ : Addr).add j = ⟨g, o + j, none⟩ := by unfold Addr.add; split <;> simp_all
/-- Bytes as a string. -/
def strOf (bs : List Nat) : ByteArray := (bs.map (fun b => ((b : Nat) : Int))).foldl (fun r n => r.push (UInt8.ofNat n.toNat)) ByteArray.empty
theorem run_conv {w : World} {v : Value} {bs : List Nat} (h : Src w v bs) : (convert 22 9 v).run Tryd.prog w = .ok (.string (strOf bs)) w := by
  rcases h with ⟨rfl, rfl⟩ | ⟨a, cap, rfl, _, hc⟩
  · rw [run_convert_bytes_string w 22 9 5 none 0 0 Tryd.underlying22 Tryd.underlying5 Tryd.underlying9]
    rfl
  · rw [run_convert_bytes_string w 22 9 5 (some a) bs.length cap Tryd.underlying22 Tryd.underlying5 Tryd.underlying9]
    refine run_bytesToString w a bs.length cap (bs.map (fun b => ((b : Nat) : Int))) ?_
    have := run_loadCells_list (P := Tryd.prog) w a (u8s bs) hc
    rw [u8s_length] at this
    rw [this]
    simp [u8s]

theorem size5 : (Tryd.prog.info? 5).map (·.size) = some 1 := by kernel_rfl
theorem lt_drop {bs : List Nat} (h : ∀ j : Nat, bs[j]?.getD 0 < 256) (k : Nat) : ∀ j : Nat, (bs.drop k)[j]?.getD 0 < 256 := fun j => by
  rw [List.getElem?_drop]; exact h _
theorem lt_take {bs : List Nat} (h : ∀ j : Nat, bs[j]?.getD 0 < 256) (k : Nat) : ∀ j : Nat, (bs.take k)[j]?.getD 0 < 256 := fun j => by
  rw [List.getElem?_take]; split
  · exact h _
  · simp
theorem lt256 {bs : List Nat} (h : ∀ b ∈ bs, b < 256) : ∀ j : Nat, bs[j]?.getD 0 < 256 := fun j => by
  by_cases hj : j < bs.length
  · rw [List.getElem?_eq_getElem hj]; exact h _ (List.getElem_mem _)
  · rw [List.getElem?_eq_none (by omega)]; simp
theorem lt_mem {bs : List Nat} (h : ∀ j : Nat, bs[j]?.getD 0 < 256) : ∀ b ∈ bs, b < 256 := fun b hb => by
  obtain ⟨j, hj, rfl⟩ := List.mem_iff_getElem.1 hb
  have := h j
  rwa [List.getElem?_eq_getElem hj] at this
theorem lt_app {a b : List Nat} (h1 : ∀ j : Nat, a[j]?.getD 0 < 256) (h2 : ∀ j : Nat, b[j]?.getD 0 < 256) : ∀ j : Nat, (a ++ b)[j]?.getD 0 < 256 :=
  lt256 (fun x hx => (List.mem_append.1 hx).elim (lt_mem h1 x) (lt_mem h2 x))
theorem u8s_app (a b : List Nat) : u8s (a ++ b) = u8s a ++ u8s b := by simp [u8s]
theorem u8s_take (a : List Nat) (k : Nat) : (u8s a).take k = u8s (a.take k) := by simp [u8s, List.map_take]
theorem u8s_drop (a : List Nat) (k : Nat) : (u8s a).drop k = u8s (a.drop k) := by simp [u8s, List.map_drop]
theorem u8s_inj {a b : List Nat} (h : u8s a = u8s b) : a = b := by
  unfold u8s at h
  refine List.map_inj_right ?_ |>.1 h
  intro x y e
  simp only [Value.int.injEq, true_and] at e
  omega
theorem keep_setRow {S : Nat → Prop} {a w : World} (h : Keep S a w) (g : Nat) (hg : g < a.heap.size → S g) (cs : Array Value) : Keep S a (w.setRow g cs) :=
  h.trans (T := fun k => k = g) ⟨rfl, rfl, rfl, by simp [World.setRow], fun k _ hk => setRow_other w g k cs hk⟩ (fun i hi e => by subst e; exact hg hi)

/-- The slice reads as the bytes bs. -/
structure Bytes (w : World) (a : Option Addr) (cap gb off : Nat) (bs : List Nat) : Prop where
  at_ : a = some ⟨gb, off, none⟩ ∨ bs = []
  nil : a = none → cap = 0
  cells : ∀ j, j < bs.length → w.cell? ⟨gb, off + j, none⟩ = some (.int .u8 ((bs[j]?.getD 0 : Nat) : Int))
  lt : ∀ j : Nat, bs[j]?.getD 0 < 256
  cap : bs.length ≤ cap
  len : bs.length < 2 ^ 48
theorem Bytes.block {w : World} {a : Option Addr} {cap gb off : Nat} {bs : List Nat} (h : Bytes w a cap gb off bs) (hb : bs ≠ []) : gb < w.heap.size :=
  World.block_lt_of_cell? w ⟨gb, off + 0, none⟩ (h.cells 0 (List.length_pos_iff.2 hb))
theorem Bytes.keep {w w' : World} {S : Nat → Prop} {a : Option Addr} {cap gb off : Nat} {bs : List Nat} (h : Bytes w a cap gb off bs) (hk : Keep S w w') (hS : bs ≠ [] → ¬ S gb) : Bytes w' a cap gb off bs :=
  ⟨h.at_, h.nil, fun j hj => by
    have hne : bs ≠ [] := by rintro rfl; simp at hj
    exact (World.cell?_of_block (hk.block gb (h.block hne) (hS hne))).trans (h.cells j hj), h.lt, h.cap, h.len⟩
/-- What append and copy read. -/
def SrcB (w : World) (v : Value) (bs : List Nat) : Prop := (v = .slice none 0 0 ∧ bs = []) ∨ ∃ a cap, v = .slice (some a) bs.length cap ∧ ∀ j u, (u8s bs)[j]? = some u → w.cell? (a.add j) = some u
theorem Bytes.src {w : World} {a : Option Addr} {cap gb off : Nat} {bs : List Nat} (h : Bytes w a cap gb off bs) : SrcB w (.slice a bs.length cap) bs := by
  cases a with
  | none =>
    have h1 := h.nil rfl
    have h2 := h.cap
    have : bs = [] := List.length_eq_zero_iff.1 (by omega)
    subst this
    exact .inl ⟨by rw [h1]; rfl, rfl⟩
  | some ad =>
    refine .inr ⟨ad, cap, rfl, fun j u hu => ?_⟩
    have hj : j < bs.length := by rw [← u8s_length]; exact (List.getElem?_eq_some_iff.1 hu).1
    rcases h.at_ with e | e
    · cases e
      rw [addO, h.cells j hj, ← u8s_at bs j hj, hu]
    · subst e; simp at hj


theorem run_low5 (a : Option Addr) (len cap k : Nat) (h1 : k ≤ len) (w : World) :
    (sliceSem 22 (.slice a len cap) (some (.int .i64 (k : Int))) none none).run Tryd.prog w = .ok (.slice (if cap = k then a else a.map (fun x => x.add k)) (len - k) (cap - k)) w := by
  obtain ⟨i0, hi, hz0, hz1, hz2⟩ := info_parts info5
  simp [sliceSem, Instr.slice, run_underlying Tryd.underlying22, Instr.sliceBounds, Instr.sliceBound, asIntOf, h1, sizeOf, typeInfo, hi, hz1]
theorem run_high5 (a : Option Addr) (len cap k : Nat) (h1 : k ≤ cap) (w : World) :
    (sliceSem 22 (.slice a len cap) none (some (.int .i64 (k : Int))) none).run Tryd.prog w = .ok (.slice a k cap) w := by
  obtain ⟨i0, hi, hz0, hz1, hz2⟩ := info_parts info5
  have e : (if cap = 0 then a else a.map (fun x => x.add 0)) = a := by
    split
    · rfl
    · cases a <;> simp [Addr.add]
  simp [sliceSem, Instr.slice, run_underlying Tryd.underlying22, Instr.sliceBounds, Instr.sliceBound, asIntOf, h1, sizeOf, typeInfo, hi, e]

theorem Bytes.drop {w : World} {a : Option Addr} {cap gb off : Nat} {bs : List Nat} (h : Bytes w a cap gb off bs) (k : Nat) (hk : k ≤ bs.length) :
    ∃ a' off', (∀ W, (sliceSem 22 (.slice a bs.length cap) (some (.int .i64 (k : Int))) none none).run Tryd.prog W = .ok (.slice a' (bs.drop k).length (cap - k)) W) ∧ Bytes w a' (cap - k) gb off' (bs.drop k) ∧ (bs.drop k ≠ [] → off' = off + k) := by
  have hc := h.cap
  have hl := h.len
  refine ⟨if cap = k then a else a.map (fun x => x.add k), if cap = k then off else off + k, fun W => by rw [run_low5 a bs.length cap k hk W, List.length_drop], ⟨?_, ?_, ?_, lt_drop h.lt k, by rw [List.length_drop]; omega, by rw [List.length_drop]; omega⟩, ?_⟩
  · rcases h.at_ with e | e
    · left
      subst e
      split
      · rfl
      · simp [addO]
    · right; rw [e]; simp
  · intro e
    split at e
    · have := h.nil e; omega
    · rw [Option.map_eq_none_iff] at e
      have := h.nil e; omega
  · intro j hj
    rw [List.length_drop] at hj
    have := h.cells (k + j) (by omega)
    rw [List.getElem?_drop, if_neg (by omega), Nat.add_assoc]
    exact this
  · intro hne
    have : 0 < (bs.drop k).length := List.length_pos_iff.2 hne
    rw [List.length_drop] at this
    rw [if_neg (by omega)]
theorem Bytes.take {w : World} {a : Option Addr} {cap gb off : Nat} {bs : List Nat} (h : Bytes w a cap gb off bs) (k : Nat) (hk : k ≤ bs.length) :
    (∀ W, (sliceSem 22 (.slice a bs.length cap) none (some (.int .i64 (k : Int))) none).run Tryd.prog W = .ok (.slice a (bs.take k).length cap) W) ∧ Bytes w a cap gb off (bs.take k) := by
  have hc := h.cap
  have hl := h.len
  have e : (bs.take k).length = k := by rw [List.length_take]; omega
  refine ⟨fun W => by rw [run_high5 a bs.length cap k (by omega) W, e], ⟨?_, h.nil, ?_, lt_take h.lt k, by omega, by omega⟩⟩
  · rcases h.at_ with e | e
    · exact .inl e
    · right; rw [e]; simp
  · intro j hj
    rw [e] at hj
    rw [List.getElem?_take, if_pos hj]
    exact h.cells j (by omega)

/-- copy into a row, from o on. -/
theorem run_copy_any (w : World) (ty : TypeId) (g o dl dc : Nat) (da : Option Addr) (v : Value) (bs : List Nat) (cur : Array Value) (t : Nat) (hv : SrcB w v bs) (ht : t = min bs.length dl)
    (hda : da = some ⟨g, o, none⟩ ∨ t = 0) (hg : w.heap[g]? = some (.cells cur 5 (0, 0))) (hfit : o + t ≤ cur.size) :
    (Builtin.copy_ #[22, 22] ty #[.slice da dl dc, v]).run Tryd.prog w = .ok (.int .i64 (t : Int)) (w.setRow g (cur.toList.take o ++ u8s (bs.take t) ++ cur.toList.drop (o + t)).toArray) := by
  by_cases h0 : t = 0
  · subst h0
    have e : (cur.toList.take o ++ u8s (bs.take 0) ++ cur.toList.drop (o + 0)).toArray = cur := by simp [u8s]
    rw [e, setRow_self w g cur 5 (0, 0) hg]
    have hmin : Nat.min bs.length dl = 0 := ht.symm
    rcases hv with ⟨rfl, rfl⟩ | ⟨a, cap, rfl, hc⟩
    · exact run_copy_none (P := Tryd.prog) w 22 22 ty 5 da none dl dc 0 0 Tryd.underlying22 size5 (by simp)
    · exact run_copy_none (P := Tryd.prog) w 22 22 ty 5 da (some a) dl dc bs.length cap Tryd.underlying22 size5 hmin
  · rcases hda with rfl | e
    · rcases hv with ⟨rfl, rfl⟩ | ⟨a, cap, rfl, hc⟩
      · simp at ht; omega
      · have hl : (bs.take t).length = t := by rw [List.length_take]; omega
        have := run_copy_row Tryd.prog w 22 22 ty 5 g o dl dc a bs.length cap cur 5 (u8s (bs.take t)) Tryd.underlying22 size5 hg (by rw [u8s_length, hl]; exact ht)
          (fun j u hu => hc j u (by
            rw [← u8s_take] at hu
            rw [List.getElem?_take] at hu
            split at hu
            · exact hu
            · cases hu)) (by rw [u8s_length, hl]; exact hfit) (u8s_one _)
        rw [u8s_length, hl] at this
        exact this
    · exact absurd e h0

/-- append onto a row of one's own, from whatever slice of bytes. -/
theorem run_append_all (w : World) (ty : TypeId) (v : Value) (M bs : List Nat) (hown : w.ownsRow 0 5 1 v M.length (u8s M)) (hlen : M.length + bs.length ≤ 1099511627776) (sv : Value) (h : SrcB w sv bs) :
    ∃ v' w', (Builtin.append_ #[22, 22] ty #[v, sv]).run Tryd.prog w = .ok v' w' ∧ w'.ownsRow 0 5 1 v' (M ++ bs).length (u8s (M ++ bs)) ∧ Keep (fun k => v.ownBlock = some k) w w' ∧ (v'.ownBlock = v.ownBlock ∨ ∃ k, v'.ownBlock = some k ∧ w.heap.size ≤ k) := by
  obtain ⟨i0, hi, hz0, hz1, hz2⟩ := info_parts info5
  have happ : u8s (M ++ bs) = u8s M ++ u8s bs := by simp [u8s]
  rcases h with ⟨rfl, rfl⟩ | ⟨a, c, rfl, hc⟩
  · refine ⟨v, w, ?_, by simpa using hown, Keep.refl _ _, .inl rfl⟩
    rcases hown.2 with ⟨rfl, h0⟩ | ⟨g, cap, cur, rfl, _, hg, hr1, hr2, _⟩
    · simp [Builtin.append_, run_underlying Tryd.underlying22, sizeOf, typeInfo, hi, Builtin.lenOf, go_sem]
    · have hcap : M.length ≤ cap := by omega
      simp [Builtin.append_, run_underlying Tryd.underlying22, sizeOf, typeInfo, hi, Builtin.lenOf, go_sem, hcap]
  · obtain ⟨v', w', hr, h2, h3, h4, h5⟩ := run_append_own_at (P := Tryd.prog) w 0 22 ty 5 i0 (.int .u8 0) 1 1 Tryd.underlying22 hi hz0 hz1 hz2 rfl (by decide) v M.length (u8s M) hown a bs.length c (u8s bs) (by simp [u8s_length]) hc (u8s_one bs) (by unfold maxLen; omega) (by omega) (Nat.zero_le _)
    refine ⟨v', w', hr, by rw [List.length_append, happ]; exact h2, (Keep.refl _ w).grown h3 (fun k e _ => e), ?_⟩
    rcases h5 with e | e
    · exact .inl e
    · exact .inr ⟨_, e, Nat.le_refl _⟩

theorem owns_kept {w w' : World} {S : Nat → Prop} {base : Nat} {v : Value} {n : Nat} {xs : List Value} (h : w.ownsRow base 5 1 v n xs) (hk : Keep S w w') (hS : ∀ g, v.ownBlock = some g → ¬ S g) : w'.ownsRow base 5 1 v n xs := by
  refine ⟨h.1, ?_⟩
  rcases h.2 with ⟨e, h0⟩ | ⟨g, cap, cur, rfl, hb, hg, hr⟩
  · exact .inl ⟨e, h0⟩
  · exact .inr ⟨g, cap, cur, rfl, hb, hk.obj hg (hS g rfl), hr⟩
/-- A row of one's own, as a slice of bytes. -/
theorem bytes_own {w : World} {v : Value} {M : List Nat} (h : w.ownsRow 0 5 1 v M.length (u8s M)) (hlt : ∀ j : Nat, M[j]?.getD 0 < 256) (hl : M.length < 2 ^ 48) : ∃ a cap g, v = .slice a M.length cap ∧ Bytes w a cap g 0 M ∧ (a = none ∧ M = [] ∨ a = some ⟨g, 0, none⟩ ∧ ∃ cur, w.heap[g]? = some (.cells cur 5 (0, 0)) ∧ cur.size = cap ∧ cur.toList.take M.length = u8s M ∧ cap ≤ maxLen) := by
  rcases h.2 with ⟨e, h0⟩ | ⟨g, cap, cur, e, hb, hg, h1, h2, h3, h4⟩
  · have : M = [] := List.length_eq_zero_iff.1 h0
    subst this
    exact ⟨none, 0, 0, e, ⟨.inr rfl, fun _ => rfl, fun j hj => by simp at hj, hlt, Nat.le_refl _, hl⟩, .inl ⟨rfl, rfl⟩⟩
  · subst e
    rw [Nat.mul_one] at h3 h4
    refine ⟨some ⟨g, 0, none⟩, cap, g, rfl, ⟨.inl rfl, (fun e => by cases e), fun j hj => ?_, hlt, h1, hl⟩, .inr ⟨rfl, cur, hg, h3, h4, h2⟩⟩
    have := h.cells (g := g) rfl j _ (u8s_at M j hj)
    rw [add0] at this
    rw [Nat.zero_add]; exact this
theorem owns_mk {w : World} {g cap : Nat} {cur : Array Value} {M : List Nat} (hg : w.heap[g]? = some (.cells cur 5 (0, 0))) (h1 : M.length ≤ cap) (h2 : cap ≤ maxLen) (h3 : cur.size = cap) (h4 : cur.toList.take M.length = u8s M) : w.ownsRow 0 5 1 (.slice (some ⟨g, 0, none⟩) M.length cap) M.length (u8s M) :=
  ⟨by rw [u8s_length, Nat.mul_one], .inr ⟨g, cap, cur, rfl, Nat.zero_le _, hg, h1, h2, by rw [h3, Nat.mul_one], by rw [Nat.mul_one]; exact h4⟩⟩

theorem made_u8 (n : Nat) : madeCells #[.int .u8 0] n = (u8s (List.replicate n 0)).toArray := by
  refine Array.ext (by simp [size_madeCells, u8s]) fun i h1 h2 => ?_
  simp [madeCells, u8s, Nat.mod_one]
/-- make of l bytes, room for c. -/
theorem run_make_u8 (l c : Nat) (hlc : l ≤ c) (hc : c ≤ 281474976710656) (w : World) :
    (Instr.makeSlice 22 (.int .i64 (l : Int)) (.int .i64 (c : Int))).run Tryd.prog w = .ok (.slice (some ⟨w.heap.size, 0, none⟩) l c) (w.alloc (.cells (u8s (List.replicate c 0)).toArray 5)) := by
  obtain ⟨i0, hi, hz0, hz1, hz2⟩ := info_parts info5
  have hr := run_make (P := Tryd.prog) w 22 5 i0 (.int .u8 0) Tryd.underlying22 hi hz0 .i64 .i64 (l : Int) (c : Int) (by omega) (by omega) (by rw [hz2]; omega) (by omega)
  simp only [Int.toNat_natCast, hz1, Nat.mul_one] at hr
  rw [show (Value.int .u8 0).cells = #[.int .u8 0] from rfl, made_u8] at hr
  exact hr

theorem SrcB.keep {w w' : World} {v : Value} {bs : List Nat} (h : SrcB w v bs) (hk : Keep noBlock w w') : SrcB w' v bs := by
  rcases h with h | ⟨a, cap, e, hc⟩
  · exact .inl h
  · exact .inr ⟨a, cap, e, fun j u hu => (World.cell?_of_block (hk.block _ (World.block_lt_of_cell? _ _ (hc j u hu)) (fun h => h))).trans (hc j u hu)⟩
theorem run_convB {w : World} {v : Value} {bs : List Nat} (h : SrcB w v bs) : (convert 22 9 v).run Tryd.prog w = .ok (.string (strOf bs)) w := by
  rcases h with ⟨rfl, rfl⟩ | ⟨a, cap, rfl, hc⟩
  · rw [run_convert_bytes_string w 22 9 5 none 0 0 Tryd.underlying22 Tryd.underlying5 Tryd.underlying9]
    rfl
  · rw [run_convert_bytes_string w 22 9 5 (some a) bs.length cap Tryd.underlying22 Tryd.underlying5 Tryd.underlying9]
    refine run_bytesToString w a bs.length cap (bs.map (fun b => ((b : Nat) : Int))) ?_
    have := run_loadCells_list (P := Tryd.prog) w a (u8s bs) hc
    rw [u8s_length] at this
    rw [this]
    simp [u8s]
/-- Bytes that were laid. -/
theorem bytes_new (w : World) (bs : List Nat) (vs : Array Value) (mk : Nat × Nat) (n : Nat) (hn : n = bs.length) (hv : vs = (u8s bs).toArray) (hl : ∀ j : Nat, bs[j]?.getD 0 < 256) (h48 : bs.length < 2 ^ 48) : Bytes (w.alloc (.cells vs 5 mk)) (some ⟨w.heap.size, 0, none⟩) n w.heap.size 0 bs := by
  subst hn; subst hv
  refine ⟨.inl rfl, (fun e => by cases e), fun j hj => ?_, hl, Nat.le_refl _, h48⟩
  have := alloc_new w (.cells (u8s bs).toArray 5 mk)
  rw [Nat.zero_add]
  simp only [World.cell?, this]
  simpa using u8s_at bs j hj
/-- A row of one's own, as a slice of bytes. -/
theorem owns_bytes {w : World} {v : Value} {M : List Nat} (h : w.ownsRow 0 5 1 v M.length (u8s M)) (hM : ∀ j : Nat, M[j]?.getD 0 < 256) (hl : M.length < 2 ^ 48) : ∃ a cap g, v = .slice a M.length cap ∧ Bytes w a cap g 0 M ∧ ∀ k, v.ownBlock = some k → k = g := by
  obtain ⟨a, cap, g, e, hB, hc⟩ := bytes_own h hM hl
  refine ⟨a, cap, g, e, hB, fun k hk => ?_⟩
  subst e
  rcases hc with ⟨rfl, _⟩ | ⟨rfl, _⟩
  · cases hk
  · simpa [Value.ownBlock] using hk.symm

theorem wpList_append_run {ops : Array Oper} {rest : List Oper} {o : Oper} {a : Act} {Q : Exit → Act → World → Prop} (w : World) (hgd : o.guard = none) (s x : Operand) (t : TypeId)
    (ho : o.op = .call { callee := .builtin .append, args := #[s, x], argTypes := #[t, t] }) (v sv v' : Value) (w' : World) (hs : a.eval s = v) (hx : a.eval x = sv)
    (hr : (Builtin.append_ #[t, t] o.type #[v, sv]).run Tryd.prog w = .ok v' w') (hk : wpList Tryd.prog ops Q rest (a.put o.dst v') w') : wpList Tryd.prog ops Q (o :: rest) a w := by
  refine wpList_plain hgd fun K hK => ?_
  unfold Oper.wp execOp
  simp only [ho, resolve, invoke, builtin, Sem.run_bind, Sem.run_pure, Result.andThen_ok, List.map_toArray, List.map_cons, List.map_nil, hs, hx, hr]
  exact hK _ _ hk
theorem step_append_run {ops : Array Oper} {o : Oper} {a : Act} {K : Act → World → Prop} {Q : Exit → Act → World → Prop} {E : Prop} (w : World) (hgd : o.guard = none) (s x : Operand) (t : TypeId)
    (ho : o.op = .call { callee := .builtin .append, args := #[s, x], argTypes := #[t, t] }) (v sv v' : Value) (w' : World) (hs : a.eval s = v) (hx : a.eval x = sv)
    (hr : (Builtin.append_ #[t, t] o.type #[v, sv]).run Tryd.prog w = .ok v' w') (hk : K (a.put o.dst v') w') : if Region.wanted o (yielded ops a.tmps) = true then Oper.wp Tryd.prog o a w K Q else E := by
  have hw : Region.wanted o (yielded ops a.tmps) = true := by simp [Region.wanted, hgd]
  rw [if_pos hw]
  unfold Oper.wp execOp
  simp only [ho, resolve, invoke, builtin, Sem.run_bind, Sem.run_pure, Result.andThen_ok, List.map_toArray, List.map_cons, List.map_nil, hs, hx, hr]
  exact hk

/-- A byte more, behind a row of one's own. -/
theorem own_push {W : World} {v : Value} {M : List Nat} (h : W.ownsRow 0 5 1 v M.length (u8s M)) (x : Nat) (hl : M.length ≤ 16777216) :
    ∃ v' W', (Builtin.append_ #[22, 22] 22 #[v, .slice (some ⟨W.heap.size, 0, none⟩) 1 1]).run Tryd.prog (W.alloc (.cells #[.int .u8 (x : Int)] 5)) = .ok v' W' ∧ W'.ownsRow 0 5 1 v' (M ++ [x]).length (u8s (M ++ [x])) ∧ Keep (fun k => v.ownBlock = some k) W W' ∧ (v'.ownBlock = v.ownBlock ∨ ∃ k, v'.ownBlock = some k ∧ W.heap.size ≤ k) := by
  have hka : Keep noBlock W (W.alloc (.cells #[.int .u8 (x : Int)] 5)) := (Keep.refl _ W).alloc _
  have hs : SrcB (W.alloc (.cells #[.int .u8 (x : Int)] 5)) (.slice (some ⟨W.heap.size, 0, none⟩) 1 1) [x] := .inr ⟨_, 1, rfl, fun j u hu => by
    have hj : j < 1 := by have := (List.getElem?_eq_some_iff.1 hu).1; rwa [u8s_length] at this
    obtain rfl : j = 0 := by omega
    rw [← hu, addO]
    exact cell_of (alloc_new W _) 0⟩
  obtain ⟨v', W', hr, ho, hk, hm⟩ := run_append_all (W.alloc (.cells #[.int .u8 (x : Int)] 5)) 22 v M [x] (owns_kept h hka (fun _ _ h => h)) (by simp; omega) _ hs
  refine ⟨v', W', hr, ho, (hka.mono (fun _ _ h => h.elim)).trans hk (fun _ _ h => h), ?_⟩
  rcases hm with e | ⟨k, e, hk⟩
  · exact .inl e
  · exact .inr ⟨k, e, by rw [World.size_alloc] at hk; omega⟩

end Go.Proofs.YtinhlkioeadfdaaDoor
