/-
  Slices of bytes: cut, copied, appended, made, as strings.
  share, sumOf, makeCode; the document's Bits.
  makeCode, and the document's Bits.
  words: the words of a code, one behind the other.
  slices.Backward over bytes.
  The array of words, and the bits that are packed.
  The array of cells in which words are found.
-/
import Derived.Laws.CopyRow
import Derived.Laws.IdiomCopy
import Derived.Deep.OwnRows
import Derived.Laws.Rows
import Derived.Laws.Tables
import Derived.Deep.WholeRow
import Derived.Test.YtcoahkmiebeeeaaGreatDoorLitP3
import Derived.Test.YtcoahkmiebeeeaaGreatDoorLitP5
namespace Go.Proofs.YtcoahkmiebeeeaaGreatDoor
open Go.RowKit Go.Shelf
set_option linter.unusedVariables false

theorem size5 : (Tryz.prog.info? 5).map (·.size) = some 1 := by kernel_rfl
theorem lt_drop {bs : List Nat} (h : ∀ j : Nat, bs[j]?.getD 0 < 256) (k : Nat) : ∀ j : Nat, (bs.drop k)[j]?.getD 0 < 256 := fun j => by
  rw [List.getElem?_drop]; exact h _
theorem lt_take {bs : List Nat} (h : ∀ j : Nat, bs[j]?.getD 0 < 256) (k : Nat) : ∀ j : Nat, (bs.take k)[j]?.getD 0 < 256 := fun j => by
  rw [List.getElem?_take]; split
  · exact h _
  · simp
theorem lt256 {bs : List Nat} (h : ∀ b ∈ bs, b < 256) : ∀ j : Nat, bs[j]?.getD 0 < 256 := fun j => by
  by_cases hj : j < bs.length
  · rw [List.getElem?_eq_getElem hj]; exact h _ (List.getElem_mem _)
  · rw [List.getElem?_eq_none (by omega)]; simp
theorem lt_mem {bs : List Nat} (h : ∀ j : Nat, bs[j]?.getD 0 < 256) : ∀ b ∈ bs, b < 256 := fun b hb => by
  obtain ⟨j, hj, rfl⟩ := List.mem_iff_getElem.1 hb
  have := h j
  rwa [List.getElem?_eq_getElem hj] at this
theorem lt_app {a b : List Nat} (h1 : ∀ j : Nat, a[j]?.getD 0 < 256) (h2 : ∀ j : Nat, b[j]?.getD 0 < 256) : ∀ j : Nat, (a ++ b)[j]?.getD 0 < 256 :=
  lt256 (fun x hx => (List.mem_append.1 hx).elim (lt_mem h1 x) (lt_mem h2 x))
theorem u8s_app (a b : List Nat) : u8s (a ++ b) = u8s a ++ u8s b := by simp [u8s]
theorem u8s_take (a : List Nat) (k : Nat) : (u8s a).take k = u8s (a.take k) := by simp [u8s, List.map_take]
theorem keep_setRow {S : Nat → Prop} {a w : World} (h : Keep S a w) (g : Nat) (hg : g < a.heap.size → S g) (cs : Array Value) : Keep S a (w.setRow g cs) :=
  h.trans (T := fun k => k = g) ⟨rfl, rfl, rfl, by simp [World.setRow], fun k _ hk => setRow_other w g k cs hk⟩ (fun i hi e => by subst e; exact hg hi)

/-- The slice reads as the bytes bs. -/
structure Bytes (w : World) (a : Option Addr) (cap gb off : Nat) (bs : List Nat) : Prop where
  at_ : a = some ⟨gb, off, none⟩ ∨ bs = []
  nil : a = none → cap = 0
  cells : ∀ j, j < bs.length → w.cell? ⟨gb, off + j, none⟩ = some (.int .u8 ((bs[j]?.getD 0 : Nat) : Int))
  lt : ∀ j : Nat, bs[j]?.getD 0 < 256
  cap : bs.length ≤ cap
  len : bs.length < 2 ^ 48
theorem Bytes.block {w : World} {a : Option Addr} {cap gb off : Nat} {bs : List Nat} (h : Bytes w a cap gb off bs) (hb : bs ≠ []) : gb < w.heap.size :=
  World.block_lt_of_cell? w ⟨gb, off + 0, none⟩ (h.cells 0 (List.length_pos_iff.2 hb))
theorem Bytes.keep {w w' : World} {S : Nat → Prop} {a : Option Addr} {cap gb off : Nat} {bs : List Nat} (h : Bytes w a cap gb off bs) (hk : Keep S w w') (hS : bs ≠ [] → ¬ S gb) : Bytes w' a cap gb off bs :=
  ⟨h.at_, h.nil, fun j hj => by
    have hne : bs ≠ [] := by rintro rfl; simp at hj
    exact (World.cell?_of_block (hk.block gb (h.block hne) (hS hne))).trans (h.cells j hj), h.lt, h.cap, h.len⟩
def SrcB (w : World) (v : Value) (bs : List Nat) : Prop := (v = .slice none 0 0 ∧ bs = []) ∨ ∃ a cap, v = .slice (some a) bs.length cap ∧ ∀ j u, (u8s bs)[j]? = some u → w.cell? (a.add j) = some u
theorem Bytes.src {w : World} {a : Option Addr} {cap gb off : Nat} {bs : List Nat} (h : Bytes w a cap gb off bs) : SrcB w (.slice a bs.length cap) bs := by
  cases a with
  | none =>
    have h1 := h.nil rfl
    have h2 := h.cap
    have : bs = [] := List.length_eq_zero_iff.1 (by omega)
    subst this
    exact .inl ⟨by rw [h1]; rfl, rfl⟩
  | some ad =>
    refine .inr ⟨ad, cap, rfl, fun j u hu => ?_⟩
    have hj : j < bs.length := by rw [← u8s_length]; exact (List.getElem?_eq_some_iff.1 hu).1
    rcases h.at_ with e | e
    · cases e
      rw [addO, h.cells j hj, ← u8s_at bs j hj, hu]
    · subst e; simp at hj

theorem run_low5 (a : Option Addr) (len cap k : Nat) (h1 : k ≤ len) (w : World) :
    (sliceSem 22 (.slice a len cap) (some (.int .i64 (k : Int))) none none).run Tryz.prog w = .ok (.slice (if cap = k then a else a.map (fun x => x.add k)) (len - k) (cap - k)) w := by
  obtain ⟨i0, hi, hz0, hz1, hz2⟩ := info_parts info5
  simp [sliceSem, Instr.slice, run_underlying Tryz.underlying22, Instr.sliceBounds, Instr.sliceBound, asIntOf, h1, sizeOf, typeInfo, hi, hz1]
theorem run_high5 (a : Option Addr) (len cap k : Nat) (h1 : k ≤ cap) (w : World) :
    (sliceSem 22 (.slice a len cap) none (some (.int .i64 (k : Int))) none).run Tryz.prog w = .ok (.slice a k cap) w := by
  obtain ⟨i0, hi, hz0, hz1, hz2⟩ := info_parts info5
  have e : (if cap = 0 then a else a.map (fun x => x.add 0)) = a := by
    split
    · rfl
    · cases a <;> simp [Addr.add]
  simp [sliceSem, Instr.slice, run_underlying Tryz.underlying22, Instr.sliceBounds, Instr.sliceBound, asIntOf, h1, sizeOf, typeInfo, hi, e]

theorem Bytes.drop {w : World} {a : Option Addr} {cap gb off : Nat} {bs : List Nat} (h : Bytes w a cap gb off bs) (k : Nat) (hk : k ≤ bs.length) :
    ∃ a' off', (∀ W, (sliceSem 22 (.slice a bs.length cap) (some (.int .i64 (k : Int))) none none).run Tryz.prog W = .ok (.slice a' (bs.drop k).length (cap - k)) W) ∧ Bytes w a' (cap - k) gb off' (bs.drop k) ∧ (bs.drop k ≠ [] → off' = off + k) := by
  have hc := h.cap
  have hl := h.len
  refine ⟨if cap = k then a else a.map (fun x => x.add k), if cap = k then off else off + k, fun W => by rw [run_low5 a bs.length cap k hk W, List.length_drop], ⟨?_, ?_, ?_, lt_drop h.lt k, by rw [List.length_drop]; omega, by rw [List.length_drop]; omega⟩, ?_⟩
  · rcases h.at_ with e | e
    · left
      subst e
      split
      · rfl
      · simp [addO]
    · right; rw [e]; simp
  · intro e
    split at e
    · have := h.nil e; omega
    · rw [Option.map_eq_none_iff] at e
      have := h.nil e; omega
  · intro j hj
    rw [List.length_drop] at hj
    have := h.cells (k + j) (by omega)
    rw [List.getElem?_drop, if_neg (by omega), Nat.add_assoc]
    exact this
  · intro hne
    have : 0 < (bs.drop k).length := List.length_pos_iff.2 hne
    rw [List.length_drop] at this
    rw [if_neg (by omega)]
theorem Bytes.take {w : World} {a : Option Addr} {cap gb off : Nat} {bs : List Nat} (h : Bytes w a cap gb off bs) (k : Nat) (hk : k ≤ bs.length) :
    (∀ W, (sliceSem 22 (.slice a bs.length cap) none (some (.int .i64 (k : Int))) none).run Tryz.prog W = .ok (.slice a (bs.take k).length cap) W) ∧ Bytes w a cap gb off (bs.take k) := by
  have hc := h.cap
  have hl := h.len
  have e : (bs.take k).length = k := by rw [List.length_take]; omega
  refine ⟨fun W => by rw [run_high5 a bs.length cap k (by omega) W, e], ⟨?_, h.nil, ?_, lt_take h.lt k, by omega, by omega⟩⟩
  · rcases h.at_ with e | e
    · exact .inl e
    · right; rw [e]; simp
  · intro j hj
    rw [e] at hj
    rw [List.getElem?_take, if_pos hj]
    exact h.cells j (by omega)

theorem run_copy_any (w : World) (ty : TypeId) (g o dl dc : Nat) (da : Option Addr) (v : Value) (bs : List Nat) (cur : Array Value) (t : Nat) (hv : SrcB w v bs) (ht : t = min bs.length dl)
    (hda : da = some ⟨g, o, none⟩ ∨ t = 0) (hg : w.heap[g]? = some (.cells cur 5 (0, 0))) (hfit : o + t ≤ cur.size) :
    (Builtin.copy_ #[22, 22] ty #[.slice da dl dc, v]).run Tryz.prog w = .ok (.int .i64 (t : Int)) (w.setRow g (cur.toList.take o ++ u8s (bs.take t) ++ cur.toList.drop (o + t)).toArray) := by
  by_cases h0 : t = 0
  · subst h0
    have e : (cur.toList.take o ++ u8s (bs.take 0) ++ cur.toList.drop (o + 0)).toArray = cur := by simp [u8s]
    rw [e, setRow_self w g cur 5 (0, 0) hg]
    have hmin : Nat.min bs.length dl = 0 := ht.symm
    rcases hv with ⟨rfl, rfl⟩ | ⟨a, cap, rfl, hc⟩
    · exact run_copy_none (P := Tryz.prog) w 22 22 ty 5 da none dl dc 0 0 Tryz.underlying22 size5 (by simp)
    · exact run_copy_none (P := Tryz.prog) w 22 22 ty 5 da (some a) dl dc bs.length cap Tryz.underlying22 size5 hmin
  · rcases hda with rfl | e
    · rcases hv with ⟨rfl, rfl⟩ | ⟨a, cap, rfl, hc⟩
      · simp at ht; omega
      · have hl : (bs.take t).length = t := by rw [List.length_take]; omega
        have := run_copy_row Tryz.prog w 22 22 ty 5 g o dl dc a bs.length cap cur 5 (u8s (bs.take t)) Tryz.underlying22 size5 hg (by rw [u8s_length, hl]; exact ht)
          (fun j u hu => hc j u (by
            rw [← u8s_take] at hu
            rw [List.getElem?_take] at hu
            split at hu
            · exact hu
            · cases hu)) (by rw [u8s_length, hl]; exact hfit) (u8s_one _)
        rw [u8s_length, hl] at this
        exact this
    · exact absurd e h0

theorem run_append_all (w : World) (ty : TypeId) (v : Value) (M bs : List Nat) (hown : w.ownsRow 0 5 1 v M.length (u8s M)) (hlen : M.length + bs.length ≤ 1099511627776) (sv : Value) (h : SrcB w sv bs) :
    ∃ v' w', (Builtin.append_ #[22, 22] ty #[v, sv]).run Tryz.prog w = .ok v' w' ∧ w'.ownsRow 0 5 1 v' (M ++ bs).length (u8s (M ++ bs)) ∧ Keep (fun k => v.ownBlock = some k) w w' ∧ (v'.ownBlock = v.ownBlock ∨ ∃ k, v'.ownBlock = some k ∧ w.heap.size ≤ k) := by
  obtain ⟨i0, hi, hz0, hz1, hz2⟩ := info_parts info5
  have happ : u8s (M ++ bs) = u8s M ++ u8s bs := by simp [u8s]
  rcases h with ⟨rfl, rfl⟩ | ⟨a, c, rfl, hc⟩
  · refine ⟨v, w, ?_, by simpa using hown, Keep.refl _ _, .inl rfl⟩
    rcases hown.2 with ⟨rfl, h0⟩ | ⟨g, cap, cur, rfl, _, hg, hr1, hr2, _⟩
    · simp [Builtin.append_, run_underlying Tryz.underlying22, sizeOf, typeInfo, hi, Builtin.lenOf, go_sem]
    · have hcap : M.length ≤ cap := by omega
      simp [Builtin.append_, run_underlying Tryz.underlying22, sizeOf, typeInfo, hi, Builtin.lenOf, go_sem, hcap]
  · obtain ⟨v', w', hr, h2, h3, h4, h5⟩ := run_append_own_at (P := Tryz.prog) w 0 22 ty 5 i0 (.int .u8 0) 1 1 Tryz.underlying22 hi hz0 hz1 hz2 rfl (by decide) v M.length (u8s M) hown a bs.length c (u8s bs) (by simp [u8s_length]) hc (u8s_one bs) (by unfold maxLen; omega) (by omega) (Nat.zero_le _)
    refine ⟨v', w', hr, by rw [List.length_append, happ]; exact h2, (Keep.refl _ w).grown h3 (fun k e _ => e), ?_⟩
    rcases h5 with e | e
    · exact .inl e
    · exact .inr ⟨_, e, Nat.le_refl _⟩

theorem owns_kept {w w' : World} {S : Nat → Prop} {base : Nat} {v : Value} {n : Nat} {xs : List Value} (h : w.ownsRow base 5 1 v n xs) (hk : Keep S w w') (hS : ∀ g, v.ownBlock = some g → ¬ S g) : w'.ownsRow base 5 1 v n xs := by
  refine ⟨h.1, ?_⟩
  rcases h.2 with ⟨e, h0⟩ | ⟨g, cap, cur, rfl, hb, hg, hr⟩
  · exact .inl ⟨e, h0⟩
  · exact .inr ⟨g, cap, cur, rfl, hb, hk.obj hg (hS g rfl), hr⟩
theorem bytes_own {w : World} {v : Value} {M : List Nat} (h : w.ownsRow 0 5 1 v M.length (u8s M)) (hlt : ∀ j : Nat, M[j]?.getD 0 < 256) (hl : M.length < 2 ^ 48) : ∃ a cap g, v = .slice a M.length cap ∧ Bytes w a cap g 0 M ∧ (a = none ∧ M = [] ∨ a = some ⟨g, 0, none⟩ ∧ ∃ cur, w.heap[g]? = some (.cells cur 5 (0, 0)) ∧ cur.size = cap ∧ cur.toList.take M.length = u8s M ∧ cap ≤ maxLen) := by
  rcases h.2 with ⟨e, h0⟩ | ⟨g, cap, cur, e, hb, hg, h1, h2, h3, h4⟩
  · have : M = [] := List.length_eq_zero_iff.1 h0
    subst this
    exact ⟨none, 0, 0, e, ⟨.inr rfl, fun _ => rfl, fun j hj => by simp at hj, hlt, Nat.le_refl _, hl⟩, .inl ⟨rfl, rfl⟩⟩
  · subst e
    rw [Nat.mul_one] at h3 h4
    refine ⟨some ⟨g, 0, none⟩, cap, g, rfl, ⟨.inl rfl, (fun e => by cases e), fun j hj => ?_, hlt, h1, hl⟩, .inr ⟨rfl, cur, hg, h3, h4, h2⟩⟩
    have := h.cells (g := g) rfl j _ (u8s_at M j hj)
    rw [add0] at this
    rw [Nat.zero_add]; exact this
theorem owns_mk {w : World} {g cap : Nat} {cur : Array Value} {M : List Nat} (hg : w.heap[g]? = some (.cells cur 5 (0, 0))) (h1 : M.length ≤ cap) (h2 : cap ≤ maxLen) (h3 : cur.size = cap) (h4 : cur.toList.take M.length = u8s M) : w.ownsRow 0 5 1 (.slice (some ⟨g, 0, none⟩) M.length cap) M.length (u8s M) :=
  ⟨by rw [u8s_length, Nat.mul_one], .inr ⟨g, cap, cur, rfl, Nat.zero_le _, hg, h1, h2, by rw [h3, Nat.mul_one], by rw [Nat.mul_one]; exact h4⟩⟩

theorem made_u8 (n : Nat) : madeCells #[.int .u8 0] n = (u8s (List.replicate n 0)).toArray := by
  refine Array.ext (by simp [size_madeCells, u8s]) fun i h1 h2 => ?_
  simp [madeCells, u8s, Nat.mod_one]
theorem run_make_u8 (l c : Nat) (hlc : l ≤ c) (hc : c ≤ 281474976710656) (w : World) :
    (Instr.makeSlice 22 (.int .i64 (l : Int)) (.int .i64 (c : Int))).run Tryz.prog w = .ok (.slice (some ⟨w.heap.size, 0, none⟩) l c) (w.alloc (.cells (u8s (List.replicate c 0)).toArray 5)) := by
  obtain ⟨i0, hi, hz0, hz1, hz2⟩ := info_parts info5
  have hr := run_make (P := Tryz.prog) w 22 5 i0 (.int .u8 0) Tryz.underlying22 hi hz0 .i64 .i64 (l : Int) (c : Int) (by omega) (by omega) (by rw [hz2]; omega) (by omega)
  simp only [Int.toNat_natCast, hz1, Nat.mul_one] at hr
  rw [show (Value.int .u8 0).cells = #[.int .u8 0] from rfl, made_u8] at hr
  exact hr

theorem SrcB.keep {w w' : World} {v : Value} {bs : List Nat} (h : SrcB w v bs) (hk : Keep noBlock w w') : SrcB w' v bs := by
  rcases h with h | ⟨a, cap, e, hc⟩
  · exact .inl h
  · exact .inr ⟨a, cap, e, fun j u hu => (World.cell?_of_block (hk.block _ (World.block_lt_of_cell? _ _ (hc j u hu)) (fun h => h))).trans (hc j u hu)⟩
theorem run_convB {w : World} {v : Value} {bs : List Nat} (h : SrcB w v bs) : (convert 22 9 v).run Tryz.prog w = .ok (.string (strOf bs)) w := by
  rcases h with ⟨rfl, rfl⟩ | ⟨a, cap, rfl, hc⟩
  · rw [run_convert_bytes_string w 22 9 5 none 0 0 Tryz.underlying22 Tryz.underlying5 Tryz.underlying9]
    rfl
  · rw [run_convert_bytes_string w 22 9 5 (some a) bs.length cap Tryz.underlying22 Tryz.underlying5 Tryz.underlying9]
    refine run_bytesToString w a bs.length cap (bs.map (fun b => ((b : Nat) : Int))) ?_
    have := run_loadCells_list (P := Tryz.prog) w a (u8s bs) hc
    rw [u8s_length] at this
    rw [this]
    simp [u8s]
theorem bytes_new (w : World) (bs : List Nat) (vs : Array Value) (mk : Nat × Nat) (n : Nat) (hn : n = bs.length) (hv : vs = (u8s bs).toArray) (hl : ∀ j : Nat, bs[j]?.getD 0 < 256) (h48 : bs.length < 2 ^ 48) : Bytes (w.alloc (.cells vs 5 mk)) (some ⟨w.heap.size, 0, none⟩) n w.heap.size 0 bs := by
  subst hn; subst hv
  refine ⟨.inl rfl, (fun e => by cases e), fun j hj => ?_, hl, Nat.le_refl _, h48⟩
  have := World.alloc_heap_new w (.cells (u8s bs).toArray 5 mk)
  rw [Nat.zero_add]
  simp only [World.cell?, this]
  simpa using u8s_at bs j hj
theorem owns_bytes {w : World} {v : Value} {M : List Nat} (h : w.ownsRow 0 5 1 v M.length (u8s M)) (hM : ∀ j : Nat, M[j]?.getD 0 < 256) (hl : M.length < 2 ^ 48) : ∃ a cap g, v = .slice a M.length cap ∧ Bytes w a cap g 0 M ∧ ∀ k, v.ownBlock = some k → k = g := by
  obtain ⟨a, cap, g, e, hB, hc⟩ := bytes_own h hM hl
  refine ⟨a, cap, g, e, hB, fun k hk => ?_⟩
  subst e
  rcases hc with ⟨rfl, _⟩ | ⟨rfl, _⟩
  · cases hk
  · simpa [Value.ownBlock] using hk.symm

end Go.Proofs.YtcoahkmiebeeeaaGreatDoor

namespace Go.Proofs.YtcoahkmiebeeeaaGreatDoor
open Go.RowKit Go.Shelf

set_option maxRecDepth 100000 in
set_option maxHeartbeats 1000000 in
theorem len64_big (x : Nat) (hx : x < 16777216) (w : World) : Calls Tryz.prog 83 #[.int .u64 (x : Int)] w fun e w' => e = .returned (.int .i64 ((lenN x : Nat) : Int)) ∧ w' = w := by
  by_cases h : x < 65536
  · exact len64_any x h w
  · have g1 : ¬ (4294967296 : Int) ≤ (x : Int) := by omega
    have g2 : (65536 : Int) ≤ (x : Int) := by omega
    have hs : lenN x = 16 + lenN (x / 65536) := by
      have h1 := lenN_shift x (by omega)
      have h2 := lenN_shift (x / 256) (by omega)
      rw [Nat.div_div_eq_div_mul, show 256 * 256 = 65536 from rfl] at h2
      omega
    obtain ⟨y, hy⟩ : ∃ y, y = x / 65536 := ⟨_, rfl⟩
    have hd : (x : Int) / 2 ^ 16 = (y : Int) := by omega
    have hd' : (x : Int) / 65536 = (y : Int) := by omega
    rw [← hy] at hs
    have hy2 : y < 256 := by omega
    have hyI : (y : Int) < 256 := by omega
    have hyn : ¬ (256 : Int) ≤ (y : Int) := by omega
    generalize lenN x = lx at hs ⊢
    have HS := (show Hid _ from hs)
    have HY := (show Hid _ from hy)
    clear hs hy
    go_enter Tryz.func83, Tryz.ntmps83
    go_wp2
    go_ret
    refine ⟨congrArg (fun x => Ending.returned (Value.int .i64 x)) ?_, rfl⟩
    rw [HS.out]
    clear w g1 g2 hx HS HY hd hd' h x lx
    revert hyn hyI hy2
    revert y
    decide +kernel

set_option maxHeartbeats 400000 in
theorem len_big (x : Nat) (hx : x < 16777216) (w : World) : Calls Tryz.prog 58 #[.int .u64 (x : Int)] w fun e w' => e = .returned (.int .i64 ((lenN x : Nat) : Int)) ∧ w' = w := by
  go_enter Tryz.func58, Tryz.ntmps58
  go_wp2_with (go_at_call 83; refine (len64_big x hx _).mono ?_; rintro e w' ⟨rfl, rfl⟩)
  go_ret
  exact ⟨rfl, rfl⟩

set_option maxHeartbeats 400000 in
theorem shareW_any (x : Nat) (hx : x ≤ 11) (w : World) : Calls Tryz.prog 60 #[.int .u8 (x : Int)] w fun e w' => e = .returned (.int .i64 ((shN x : Nat) : Int)) ∧ w' = w := by
  by_cases h0 : x = 0
  · subst h0
    go_enter Tryz.func60, Tryz.ntmps60
    go_wp2
    go_ret
    exact ⟨rfl, rfl⟩
  · have hb : ((x : Int) == 0) = false := by rw [beq_eq_false_iff_ne]; omega
    obtain ⟨k, hk⟩ : ∃ k, x = k + 1 := ⟨x - 1, by omega⟩
    have hkI : (x : Int) - 1 = (k : Int) := by omega
    have hk10 : (k : Int) ≤ 10 := by omega
    have hxI : (x : Int) ≤ 11 := by omega
    have hsh : shN x = 2 ^ k := by rw [hk]; rfl
    have hp : 2 ^ k ≤ 1024 := Nat.pow_le_pow_right (n := 2) (j := 10) (by omega) (by omega)
    have hpI : wrap64 ((2 : Int) ^ k) = ((shN x : Nat) : Int) := by
      rw [hsh]
      have e : (2 : Int) ^ k = ((2 ^ k : Nat) : Int) := by simp
      rw [e]
      generalize 2 ^ k = y at hp
      unfold wrap64; omega
    generalize shN x = y at *
    have HP := (show Hid _ from hpI)
    clear hk hsh hp hpI
    go_enter Tryz.func60, Tryz.ntmps60
    go_wp2
    go_ret
    exact ⟨congrArg (fun x => Ending.returned (Value.int .i64 x)) HP.out, rfl⟩

def okW (ws : List Nat) : Bool := decide (∀ i, i < ws.length → wt ws i ≤ 11)

set_option maxRecDepth 100000 in
set_option maxHeartbeats 1000000 in
theorem sumOfW_any (a : Option Addr) (cap gb off : Nat) (ws : List Nat) (w : World) (hB : Bytes w a cap gb off ws) (hl : ws.length ≤ 256) :
    Calls Tryz.prog 57 #[.slice a ws.length cap] w fun e w' => (okW ws = true ∧ e = .returned (.tuple #[.int .i64 ((sumW ws ws.length : Nat) : Int), .bool true]) ∨ okW ws = false ∧ e = .returned (.tuple #[.int .i64 0, .bool false])) ∧ w' = w := by
  have HB := (show Hid (Bytes w a cap gb off ws) from hB)
  obtain ⟨n, hn⟩ : ∃ n, n = ws.length := ⟨_, rfl⟩
  rw [← hn] at hl ⊢
  have HN := (show Hid (n = ws.length) from hn)
  have hnI : (n : Int) ≤ 256 := by omega
  clear hB hn
  go_enter Tryz.func57, Tryz.ntmps57
  go_wp2
  go_loop [2, 8] (fun v2 v8 => ∃ i : Nat, v8 = .int .i64 (i : Int) ∧ v2 = .int .i64 ((sumW ws i : Nat) : Int) ∧ i ≤ n ∧ Hid (∀ j, j < i → wt ws j ≤ 11)) (fun _ v8 => n - (intOf v8).toNat)
  case atStart => exact ⟨0, rfl, rfl, Nat.zero_le _, fun j hj => by omega⟩
  case round =>
    obtain ⟨i, rfl, rfl, hi, HA⟩ := hrel
    have hsb := sumW_le ws i HA.out
    have hsI : ((sumW ws i : Nat) : Int) ≤ 262144 := by omega
    by_cases hlt : i < n
    · have hix : i < ws.length := by have := HN.out; omega
      obtain rfl : a = some ⟨gb, off, none⟩ := by
        rcases HB.out.at_ with e | e
        · exact e
        · rw [e] at hix; simp at hix
      have c0 := HB.out.cells i hix
      have hx256 := HB.out.lt i
      have HS := (show Hid (sumW ws (i + 1) = sumW ws i + shN (wt ws i)) from rfl)
      have hltI : (i : Int) < (n : Int) := by omega
      have HX := (show Hid (wt ws i = ws[i]?.getD 0) from rfl)
      rw [HX.out] at HS
      obtain ⟨x, hx⟩ : ∃ x, x = ws[i]?.getD 0 := ⟨_, rfl⟩
      rw [← hx] at c0 hx256 HS HX
      clear hsb hx
      by_cases h11 : x ≤ 11
      · have hxI : (x : Int) ≤ 11 := by omega
        have hs1 := shN_le x h11
        have HSH := (show Hid (∀ w : World, _) from fun w => shareW_any x h11 w)
        generalize shN x = y at *
        generalize sumW ws i = si at *
        have hyI : (y : Int) ≤ 1024 := by omega
        go_wp2_with (go_at_call 60; refine (HSH.out _).mono ?_; rintro e w' ⟨rfl, rfl⟩)
        go_round
        case rel => exact ⟨i + 1, by go_num, by rw [HS.out]; go_num, by omega, fun j hj => by
          by_cases e : j = i
          · subst e; rw [HX.out]; exact h11
          · exact HA.out j (by omega)⟩
        case measure => simp [intOf]; omega
      · have hxI : ¬ (x : Int) ≤ 11 := by omega
        have hx256I : (x : Int) < 256 := by omega
        generalize sumW ws i = si at *
        go_wp2_with fail
        go_ret2
        exact ⟨.inr ⟨decide_eq_false (fun h => h11 (by have := h i hix; rwa [HX.out] at this)), rfl⟩, rfl⟩
    · obtain rfl : i = n := by omega
      have hltI : ¬ (i : Int) < (i : Int) := by omega
      clear hsb
      go_wp2
      go_ret2
      exact ⟨.inl ⟨decide_eq_true (fun j hj => HA.out j (by have := HN.out; omega)), rfl⟩, rfl⟩

end Go.Proofs.YtcoahkmiebeeeaaGreatDoor

namespace Go.Proofs.YtcoahkmiebeeeaaGreatDoor
open Go.RowKit Go.Shelf

theorem Bytes.here {w : World} {a : Option Addr} {cap gb off : Nat} {bs : List Nat} (h : Bytes w a cap gb off bs) {i : Nat} (hi : i < bs.length) : a = some ⟨gb, off, none⟩ := by
  rcases h.at_ with e | e
  · exact e
  · rw [e] at hi; simp at hi

theorem codeB_short {ws : List Nat} (h : ws.length < 2) : codeB ws = false := decide_eq_false (fun q => by omega)
theorem codeB_long {ws : List Nat} (h : 256 < ws.length) : codeB ws = false := decide_eq_false (fun q => by omega)
theorem codeB_last {ws : List Nat} (h : wt ws (ws.length - 1) = 0) : codeB ws = false := decide_eq_false (fun q => q.2.2.1 h)
theorem codeB_ok {ws : List Nat} (h : okW ws = false) : codeB ws = false := decide_eq_false (fun q => (of_decide_eq_false h) q.2.2.2.1)

def Made (ws : List Nat) (w : World) (e : Ending) (w' : World) : Prop := ∃ l : Int, e = .returned (.tuple #[.int .i64 l, .bool (codeB ws)]) ∧ (codeB ws = true → l = ((codeM ws : Nat) : Int)) ∧ w' = w
theorem made_no {ws : List Nat} {w : World} (l : Int) (h : codeB ws = false) : Made ws w (.returned (.tuple #[.int .i64 l, .bool false])) w := ⟨l, by rw [h], fun e => (by rw [h] at e; cases e), rfl⟩

set_option maxRecDepth 100000 in
set_option maxHeartbeats 2000000 in
theorem makeCode_any (a : Option Addr) (cap gb off : Nat) (ws : List Nat) (w : World) (hB : Bytes w a cap gb off ws) :
    Calls Tryz.prog 40 #[.slice a ws.length cap] w fun e w' => Made ws w e w' := by
  have HB := (show Hid (Bytes w a cap gb off ws) from hB)
  have h48 := hB.len
  obtain ⟨n, hn⟩ : ∃ n, n = ws.length := ⟨_, rfl⟩
  have HN := (show Hid (n = ws.length) from hn)
  have hnI : (n : Int) < 281474976710656 := by omega
  rw [← hn]
  by_cases h2 : n < 2
  · have h2I : (n : Int) < 2 := by omega
    have HC := (show Hid _ from codeB_short (ws := ws) (by omega))
    clear hB hn
    go_enter Tryz.func40, Tryz.ntmps40
    go_wp2
    go_ret2
    exact made_no 0 HC.out
  · have h2I : ¬ (n : Int) < 2 := by omega
    by_cases h256 : 256 < n
    · have h256I : (256 : Int) < (n : Int) := by omega
      have HC := (show Hid _ from codeB_long (ws := ws) (by omega))
      clear hB hn
      go_enter Tryz.func40, Tryz.ntmps40
      go_wp2
      go_ret2
      exact made_no 0 HC.out
    · have h256I : ¬ (256 : Int) < (n : Int) := by omega
      obtain ⟨k, hk⟩ : ∃ k, n = k + 1 := ⟨n - 1, by omega⟩
      have hk1 : (n : Int) - 1 = (k : Int) := by omega
      have hkn : (k : Int) < (n : Int) := by omega
      obtain rfl := hB.here (i := k) (by omega)
      have c0 := hB.cells k (by omega)
      have hx256 := hB.lt k
      obtain ⟨x, hx⟩ : ∃ x, x = ws[k]?.getD 0 := ⟨_, rfl⟩
      have hlast : wt ws (ws.length - 1) = x := by unfold wt; rw [hx]; congr 2; omega
      rw [← hx] at c0 hx256
      have HS := (show Hid (∀ u : Unit, Calls Tryz.prog 57 _ w _) from fun _ => sumOfW_any _ cap gb off ws w hB (by omega))
      rw [← hn] at HS
      by_cases hx0 : x = 0
      · have HC := (show Hid _ from codeB_last (ws := ws) (by rw [hlast]; exact hx0))
        subst hx0
        clear hB hn hk hlast hx
        go_enter Tryz.func40, Tryz.ntmps40
        go_wp2
        go_ret2
        exact made_no 0 HC.out
      · have hxb : ((x : Int) == 0) = false := by rw [beq_eq_false_iff_ne]; omega
        have hxI : (x : Int) < 256 := by omega
        have HL := (show Hid (wt ws (ws.length - 1) ≠ 0 ∧ n = k + 1) from ⟨by rw [hlast]; exact hx0, hk⟩)
        clear hB hn hk hlast hx hx0
        go_enter Tryz.func40, Tryz.ntmps40
        cases hok : okW ws with
        | false =>
          have HC := (show Hid _ from codeB_ok (ws := ws) hok)
          have HS2 := (show Hid (Calls Tryz.prog 57 #[.slice (some ⟨gb, off, none⟩) n cap] w fun e w' => e = .returned (.tuple #[.int .i64 0, .bool false]) ∧ w' = w) from (HS.out ()).mono (by
            rintro e w' ⟨h, rfl⟩
            rw [hok] at h
            rcases h with ⟨h, _⟩ | ⟨_, rfl⟩
            · cases h
            · exact ⟨rfl, rfl⟩))
          clear HS hok
          go_wp2_with (go_at_call 57; refine HS2.out.mono ?_; rintro e w' ⟨rfl, rfl⟩)
          go_ret2
          exact made_no 0 HC.out
        | true =>
          have HS2 := (show Hid (Calls Tryz.prog 57 #[.slice (some ⟨gb, off, none⟩) n cap] w fun e w' => e = .returned (.tuple #[.int .i64 ((sumW ws ws.length : Nat) : Int), .bool true]) ∧ w' = w) from (HS.out ()).mono (by
            rintro e w' ⟨h, rfl⟩
            rw [hok] at h
            rcases h with ⟨_, rfl⟩ | ⟨h, _⟩
            · rw [HN.out]; exact ⟨rfl, rfl⟩
            · cases h))
          have HOK := (show Hid (okW ws = true) from hok)
          have hsb := sumW_le ws ws.length (of_decide_eq_true hok)
          have hs0 : 0 < sumW ws ws.length := by
            have h1 := sumN_ge (fun j => shN (wt ws j)) ws.length (ws.length - 1) (by have := HN.out; omega)
            have h2 : 0 < shN (wt ws (ws.length - 1)) := by rw [shN_pos _ HL.out.1]; exact Nat.two_pow_pos _
            unfold sumW
            omega
          have hsS : sumW ws ws.length < 16777216 := by have := HN.out; omega
          have HCB := (show Hid (codeB ws = decide (sumW ws ws.length = 2 ^ (lenN (sumW ws ws.length) - 1) ∧ lenN (sumW ws ws.length) - 1 ≤ 11 ∧ 2 ≤ onesW ws ws.length)) from by
            have hnn := HN.out
            unfold codeB
            rw [Bool.eq_iff_iff, decide_eq_true_iff, decide_eq_true_iff]
            exact ⟨fun h => h.2.2.2.2, fun h => ⟨by omega, by omega, HL.out.1, of_decide_eq_true hok, h⟩⟩)
          have HCM := (show Hid (codeB ws = true → codeM ws = lenN (sumW ws ws.length) - 1) from fun h => by unfold codeM; rw [if_pos h])
          obtain ⟨q1, q2, q3⟩ := lenN_pos (sumW ws ws.length) (by omega)
          have hl18 : lenN (sumW ws ws.length) ≤ 24 := lenN_le _ _ (by omega)
          have HLN := (show Hid (∀ w : World, _) from fun w => len_big _ hsS w)
          generalize sumW ws ws.length = S at *
          obtain ⟨L1, hL1⟩ : ∃ L1, L1 = lenN S := ⟨_, rfl⟩
          rw [← hL1] at HLN HCB HCM hl18 q3
          obtain ⟨l, hl⟩ : ∃ l, l = L1 - 1 := ⟨_, rfl⟩
          have hl1 : (L1 : Int) - 1 = (l : Int) := by omega
          rw [← hl] at HCB HCM
          have hSI : (S : Int) < 16777216 := by omega
          have hlI : (L1 : Int) ≤ 24 := by omega
          clear HS hok hsb q1 q2 q3 hl hL1
          by_cases h11 : l ≤ 11
          · have h11I : ¬ (11 : Int) < (l : Int) := by omega
            have hp : 2 ^ l ≤ 2048 := Nat.pow_le_pow_right (n := 2) (j := 11) (by omega) h11
            have hpI : wrap64 ((2 : Int) ^ l) = ((2 ^ l : Nat) : Int) := by
              have e : (2 : Int) ^ l = ((2 ^ l : Nat) : Int) := by simp
              rw [e]
              generalize 2 ^ l = y at hp
              unfold wrap64; omega
            generalize 2 ^ l = P at *
            by_cases hSP : S = P
            · subst hSP
              have hne : ((S : Int) != (S : Int)) = false := by simp
              go_wp2_with (go_at_call 57; refine HS2.out.mono ?_; rintro e w' ⟨rfl, rfl⟩)
              refine (HLN.out _).mono ?_
              rintro e w' ⟨rfl, rfl⟩
              have H11 := (show Hid _ from h11)
              clear hSI hp hs0 hsS hk1 hkn hxb h2I h256I hlI h48 hl18 hx256 hxI h11 c0 hnI
              go_wp2_with fail
              go_loop [6, 46] (fun v6 v46 => ∃ i : Nat, v46 = .int .i64 (i : Int) ∧ v6 = .int .i64 ((onesW ws i : Nat) : Int) ∧ i ≤ n) (fun _ v46 => n - (intOf v46).toNat)
              case atStart => exact ⟨0, rfl, rfl, Nat.zero_le _⟩
              case round =>
                clear hne hpI
                have h256I : (n : Int) ≤ 256 := by omega
                obtain ⟨i, rfl, rfl, hi⟩ := hrel
                have hob := onesW_le ws i
                have hoI : ((onesW ws i : Nat) : Int) ≤ 256 := by omega
                by_cases hlt : i < n
                · have hix : i < ws.length := by have := HN.out; omega
                  have c1 := HB.out.cells i hix
                  have hx256 := HB.out.lt i
                  have HO := (show Hid (onesW ws (i + 1) = onesW ws i + (if ws[i]?.getD 0 = 1 then 1 else 0)) from rfl)
                  have hltI : (i : Int) < (n : Int) := by omega
                  clear hob
                  generalize ws[i]?.getD 0 = y at *
                  generalize onesW ws i = oi at *
                  have hyI : (y : Int) < 256 := by omega
                  by_cases hy1 : y = 1
                  · have hyb : ((y : Int) == 1) = true := by simp [hy1]
                    have HY := (show Hid _ from hy1)
                    clear hy1
                    go_wp2_with fail
                    go_round
                    case rel => exact ⟨i + 1, by go_num, by rw [HO.out, if_pos HY.out]; go_num, by omega⟩
                    case measure => simp [intOf]; omega
                  · have hyb : ((y : Int) == 1) = false := by rw [beq_eq_false_iff_ne]; omega
                    go_wp2_with fail
                    go_round
                    case rel => exact ⟨i + 1, by go_num, by rw [HO.out, if_neg hy1]; go_num, by omega⟩
                    case measure => simp [intOf]; omega
                · obtain rfl : i = n := by omega
                  have hltI : ¬ (i : Int) < (i : Int) := by omega
                  have HO := (show Hid (codeB ws = decide (2 ≤ onesW ws i)) from by
                    rw [HCB.out, HN.out, Bool.eq_iff_iff, decide_eq_true_iff, decide_eq_true_iff]
                    exact ⟨fun h => h.2.2, fun h => ⟨trivial, H11.out, h⟩⟩)
                  clear hob
                  generalize onesW ws i = oi at *
                  by_cases h2o : 2 ≤ oi
                  · have h2I : (2 : Int) ≤ (oi : Int) := by omega
                    go_wp2_with fail
                    go_ret2
                    have hcb : codeB ws = true := by rw [HO.out]; exact decide_eq_true h2o
                    exact ⟨l, by rw [hcb]; rfl, fun h => by rw [HCM.out h], rfl⟩
                  · have h2I : ¬ (2 : Int) ≤ (oi : Int) := by omega
                    go_wp2_with fail
                    go_ret2
                    exact made_no l (by rw [HO.out]; exact decide_eq_false h2o)
            · have hne : ((S : Int) != (P : Int)) = true := by simp; omega
              have HC := (show Hid (codeB ws = false) from by rw [HCB.out]; exact decide_eq_false (fun h => hSP h.1))
              go_wp2_with (first | (go_at_call 57; refine HS2.out.mono ?_; rintro e w' ⟨rfl, rfl⟩) | (go_at_call 58; refine (HLN.out _).mono ?_; rintro e w' ⟨rfl, rfl⟩))
              go_ret2
              exact made_no 0 HC.out
          · have h11I : (11 : Int) < (l : Int) := by omega
            have HC := (show Hid (codeB ws = false) from by rw [HCB.out]; exact decide_eq_false (fun h => h11 h.2.1))
            go_wp2_with (first | (go_at_call 57; refine HS2.out.mono ?_; rintro e w' ⟨rfl, rfl⟩) | (go_at_call 58; refine (HLN.out _).mono ?_; rintro e w' ⟨rfl, rfl⟩))
            go_ret2
            exact made_no 0 HC.out

end Go.Proofs.YtcoahkmiebeeeaaGreatDoor

namespace Go.Proofs.YtcoahkmiebeeeaaGreatDoor
open Go.RowKit Go.Shelf
set_option linter.unusedVariables false

attribute [local go_sem] Oper.semAt_some

set_option maxHeartbeats 1000000 in
theorem words_in (F : Fence) (n : Nat) (h22 : F.fn 41) (hro : F.round = none) (a : Option Addr) (len cap : Nat) (m : Int) (w : World) :
    CallsIn F n Tryz.prog 41 #[.slice a len cap, .int .i64 m] w fun e w' => e = .returned (.func (.func 59) #[] #[.pointer (some ⟨w.heap.size + 1, 0, none⟩), .pointer (some ⟨w.heap.size, 0, none⟩)]) ∧ w' = (w.alloc (.cells #[.slice a len cap] 22)).alloc (.cells #[.int .i64 m] 3) := by
  refine callsIn_of_wp Tryz.func41 rfl h22 ?_ hro
  simp only [Tryz.ntmps41, List.size_toArray, List.length_cons, List.length_nil, Nat.reduceAdd, Nat.reduceSub, Array.replicate_succ, Array.replicate_zero, List.push_toArray, List.append_toArray, List.nil_append, List.cons_append]
  gi_wp2
  go_ret
  exact ⟨rfl, rfl⟩

/-- The boxes of a range over words, and the weights. -/
structure WBox (Bs Bm : Nat) (a : Option Addr) (cap gb off : Nat) (ws : List Nat) (m : Nat) (W : World) : Prop where
  bs : W.heap[Bs]? = some (.cells #[.slice a ws.length cap] 22 (0, 0))
  bm : W.heap[Bm]? = some (.cells #[.int .i64 (m : Int)] 3 (0, 0))
  row : Bytes W a cap gb off ws
def wordV (ws : List Nat) (m s : Nat) : Array Value := #[.int .u8 (s : Int), .agg #[.int .u64 ((wordX ws s : Nat) : Int), .int .i64 ((m + 1 - wt ws s : Nat) : Int)]]
def wordR (ws : List Nat) (m : Nat) (pre : List Nat) (vs : Array Value) (pre' : List Nat) (_ : World) : Prop := ∃ s, s < ws.length ∧ 1 ≤ wt ws s ∧ wt ws s ≤ m ∧ pre = ordTo ws (wt ws s - 1) s ∧ pre' = pre ++ [s] ∧ vs = wordV ws m s

set_option maxRecDepth 100000 in
set_option maxHeartbeats 4000000 in
theorem words1_in (n : Nat) (hn : 1 ≤ n) (l Bs Bm : Nat) (a : Option Addr) (cap gb off : Nat) (ws : List Nat) (m : Nat) (hc : IsCode ws m) (J : List Nat → World → Prop) (Jx : World → Prop)
    (hB : ∀ p W, J p W → WBox Bs Bm a cap gb off ws m W) (hD : ∀ p X Y, J p X → Keep noBlock X Y → J p Y)
    (hY : ∀ p vs p' V, wordR ws m p vs p' V → J p V → YieldAt Fence.wide (n - 1) Tryz.prog l vs V fun e W' => (e = .returned (.bool true) ∧ J p' W') ∨ (e = .returned (.bool false) ∧ Jx W')) (W : World) (h0 : J [] W) :
    CallsIn Fence.wide n Tryz.prog 59 #[.func (.yield l) #[] #[], .pointer (some ⟨Bm, 0, none⟩), .pointer (some ⟨Bs, 0, none⟩)] W fun e W' => (∃ v, e = .returned v) ∧ (J (ordC ws m) W' ∨ Jx W') := by
  have hb0 := hB _ _ h0
  have c1 : W.cell? ⟨Bm, 0, none⟩ = some (.int .i64 (m : Int)) := cell_of hb0.bm 0
  have hlen := hc.len
  have hm11 := hc.m11
  have HC := (show Hid (IsCode ws m) from hc)
  have HB := (show Hid (∀ p W, J p W → WBox Bs Bm a cap gb off ws m W) from hB)
  have HY := (show Hid (∀ p vs p' V, wordR ws m p vs p' V → J p V → _) from hY)
  have HD := (show Hid (∀ p X Y, J p X → Keep noBlock X Y → J p Y) from hD)
  obtain ⟨N, hN⟩ : ∃ N, N = ws.length := ⟨_, rfl⟩
  have HN := (show Hid (N = ws.length) from hN)
  rw [← hN] at hlen
  have hNI : (N : Int) ≤ 256 := by omega
  have hmI : (m : Int) ≤ 11 := by omega
  clear hB hY hb0 hc hN hD
  refine callsIn_of_wp Tryz.func59 rfl trivial ?_ rfl
  simp only [Tryz.ntmps59, List.size_toArray, List.length_cons, List.length_nil, Nat.reduceAdd, Nat.reduceSub, Array.replicate_succ, Array.replicate_zero, List.push_toArray, List.append_toArray, List.nil_append, List.cons_append]
  gi_wp2
  clear c1
  gi_loopw [4, 9] (fun v4 v9 wr => ∃ (c x : Nat), v9 = .int .i64 (c : Int) ∧ v4 = .int .i64 (x : Int) ∧ c ≤ m ∧ Hid (x = nextL ws (ordC ws c)) ∧ J (ordC ws c) wr) (fun _ v9 _ => m - (intOf v9).toNat)
  case atStart => exact ⟨0, 0, rfl, rfl, Nat.zero_le _, rfl, h0⟩
  case round =>
    clear h0
    obtain ⟨c, x, rfl, rfl, hcm, HX, hJ⟩ := hrel
    by_cases hlt : c < m
    · have hltI : (c : Int) < (m : Int) := by omega
      have hbx := HB.out _ _ hJ
      have c2 : wr.cell? ⟨Bs, 0, none⟩ = some (.slice a ws.length cap) := cell_of hbx.bs 0
      rw [← HN.out] at c2
      clear hbx
      gi_wp2_with fail
      clear c2
      gi_loopw [4, 14] (fun v4 v14 wr => ∃ (i x : Nat), v14 = .int .i64 (i : Int) ∧ v4 = .int .i64 (x : Int) ∧ i ≤ N ∧ Hid (x = nextL ws (ordTo ws c i)) ∧ J (ordTo ws c i) wr) (fun _ v14 _ => N - (intOf v14).toNat)
      case atStart => exact ⟨0, x, rfl, rfl, Nat.zero_le _, by rw [ordTo_zero]; exact HX.out, by rw [ordTo_zero]; exact hJ⟩
      case round =>
        clear hJ HX
        obtain ⟨i, x, rfl, rfl, hi, HX, hJ⟩ := hrel
        by_cases hil : i < N
        · have hix : i < ws.length := by have := HN.out; omega
          have hbx := HB.out _ _ hJ
          obtain rfl := hbx.row.here hix
          have c3 := hbx.row.cells i hix
          have hy11 := HC.out.le i hix
          have hilI : (i : Int) < (N : Int) := by omega
          have HW := (show Hid (wt ws i = ws[i]?.getD 0) from rfl)
          obtain ⟨y, hy⟩ : ∃ y, y = ws[i]?.getD 0 := ⟨_, rfl⟩
          rw [← hy] at c3 HW
          rw [HW.out] at hy11
          have hyI : (y : Int) ≤ 11 := by omega
          have c1 : wr.cell? ⟨Bm, 0, none⟩ = some (.int .i64 (m : Int)) := cell_of hbx.bm 0
          clear hbx hy
          by_cases hyc : y = c + 1
          · have hwi : wt ws i = c + 1 := by rw [HW.out]; exact hyc
            have hst : startW ws i = x := by unfold startW; rw [hwi, Nat.add_sub_cancel]; exact HX.out.symm
            obtain ⟨X, hX⟩ : ∃ X, X = wordX ws i := ⟨_, rfl⟩
            have hXx : X = x / 2 ^ c := by rw [hX]; unfold wordX; rw [hst, hwi, Nat.add_sub_cancel]
            have hXI : (x : Int) / 2 ^ c = (X : Int) := by rw [hXx]; simp
            have hxl : x + 2 ^ c ≤ 2 ^ m := by have := HC.out.start_le i hix (by omega); rw [hst, hwi, Nat.add_sub_cancel] at this; exact this
            have hp11 : 2 ^ m ≤ 2048 := Nat.pow_le_pow_right (n := 2) (j := 11) (by omega) hm11
            have hXl : X ≤ x := by rw [hXx]; exact Nat.div_le_self _ _
            have hx2 : x ≤ 2048 := Nat.le_trans (Nat.le_trans (Nat.le_add_right _ _) hxl) hp11
            obtain ⟨L, hL⟩ : ∃ L, L = m + 1 - wt ws i := ⟨_, rfl⟩
            have hLI : (m : Int) - (c : Int) = (L : Int) := by clear hxl hp11 hXI hXx; omega
            have hy2 := HY.out _ _ _ wr.drew ⟨i, hix, by omega, by omega, by rw [hwi, Nat.add_sub_cancel], rfl, rfl⟩ (HD.out _ _ _ hJ (Keep.refl _ wr).drew)
            unfold wordV at hy2
            rw [← hX, ← hL] at hy2
            rw [← ordTo_here ws c i hwi] at hy2
            obtain ⟨sh, hsh⟩ : ∃ sh, sh = shN y := ⟨_, rfl⟩
            have HSH := (show Hid (∀ w : World, Calls Tryz.prog 60 #[.int .u8 (y : Int)] w fun e w' => e = .returned (.int .i64 (sh : Int)) ∧ w' = w) from fun w => by rw [hsh]; exact shareW_any y hy11 w)
            have hshl : sh ≤ 1024 := by rw [hsh]; exact shN_le y hy11
            have hn2 : x + sh = nextL ws (ordTo ws c (i + 1)) := by rw [ordTo_here ws c i hwi, nextL_app, nextL_one, HW.out, hsh, HX.out]
            have HN2 := (show Hid _ from hn2)
            have hmx : Tryz.prog.follows .mixedOrders = true := by kernel_rfl
            have hiI : (i : Int) < 256 := by clear hxl hp11 hXI hXx; omega
            have hx2I : (x : Int) ≤ 2048 := by clear hxl hp11 hXI hXx; omega
            have hX2I : (X : Int) ≤ 2048 := by clear hxl hp11 hXI hXx; omega
            have hshI : (sh : Int) ≤ 1024 := by clear hxl hp11 hXI hXx; omega
            have hyc2 : (c : Int) + 1 = (y : Int) := by clear hxl hp11 hXI hXx; omega
            have hne : ((y : Int) != (y : Int)) = false := by simp
            have hw1 : IntKind.u8.wrap (i : Int) = (i : Int) := by clear hxl hp11 hXI hXx; rw [IntKind.wrap_u8]; omega
            have hw2 : IntKind.u64.wrap (X : Int) = (X : Int) := by clear hxl hp11 hXI hXx; rw [IntKind.wrap_u64]; omega
            have hw3 : IntKind.i64.wrap (L : Int) = (L : Int) := by clear hxl hp11 hXI hXx; rw [IntKind.wrap_i64]; omega
            clear hxl hp11 hXx hst hX hL hsh hXl hwi hyc hJ hn2
            obtain ⟨fn, tmps, assign, body, hy, hR⟩ := hy2
            have HR := (show Hid (RoundIn Fence.wide (n - 1) Tryz.prog l fn tmps assign body wr.drew fun e W' => ∃ b : Bool, e = .returned (.bool b) ∧ Hid ((b = true ∧ J (ordTo ws c (i + 1)) W') ∨ (b = false ∧ Jx W'))) from hR.mono (by
              rintro e W' (⟨rfl, h⟩ | ⟨rfl, h⟩)
              · exact ⟨true, rfl, .inl ⟨rfl, h⟩⟩
              · exact ⟨false, rfl, .inr ⟨rfl, h⟩⟩))
            clear hR
            gi_wp2_with fail
            refine wpIn_calm ?_
            gi_region_with_o (refine HR.out.mono ?_; rintro e W3 ⟨b, rfl, HJ3⟩)
            all_goals
              simp only [calm]
              cases b with
              | true =>
                have hJ3 : J (ordTo ws c (i + 1)) W3 := by
                  rcases HJ3.out with ⟨_, h⟩ | ⟨h, _⟩
                  · exact h
                  · cases h
                gi_wp2_with (refine ⟨trivial, ?_⟩; gi_at_call 60; refine (callsIn_wide.2 (HSH.out _)).mono ?_; rintro e w' ⟨rfl, rfl⟩)
                go_roundw
                case rel => exact ⟨i + 1, x + sh, by go_num, by go_num, by omega, HN2.out, hJ3⟩
                case measure => simp [intOf]; omega
              | false =>
                have hJ3 : Jx W3 := by
                  rcases HJ3.out with ⟨h, _⟩ | ⟨_, h⟩
                  · cases h
                  · exact h
                gi_wp2
                refine bodyPost_ret (results_none rfl _ _ _) rfl ?_
                exact ⟨⟨_, rfl⟩, .inr hJ3⟩
          · have hne : ((y : Int) != (c : Int) + 1) = true := by simp; omega
            have HJ := (show Hid (J (ordTo ws c (i + 1)) wr ∧ x = nextL ws (ordTo ws c (i + 1))) from by rw [ordTo_not ws c i (by rw [HW.out]; exact hyc)]; exact ⟨hJ, HX.out⟩)
            clear hJ hyc
            gi_wp2_with fail
            go_roundw
            case rel => exact ⟨i + 1, x, by go_num, rfl, by omega, HJ.out.2, HJ.out.1⟩
            case measure => simp [intOf]; omega
        · obtain rfl : i = N := by omega
          have hilI : ¬ (i : Int) < (i : Int) := by omega
          have HJ := (show Hid (J (ordC ws (c + 1)) wr ∧ x = nextL ws (ordC ws (c + 1))) from by rw [← ordTo_all, ← HN.out]; exact ⟨hJ, HX.out⟩)
          clear hJ
          gi_wp2_with fail
          go_roundw
          case rel => exact ⟨c + 1, x, by go_num, rfl, by omega, HJ.out.2, HJ.out.1⟩
          case measure => simp [intOf]; omega
    · obtain rfl : c = m := by omega
      have hltI : ¬ (c : Int) < (c : Int) := by omega
      gi_wp2
      go_end0
      exact ⟨⟨_, rfl⟩, .inl hJ⟩

end Go.Proofs.YtcoahkmiebeeeaaGreatDoor

namespace Go.Proofs.YtcoahkmiebeeeaaGreatDoor
open Go.RowKit Go.Shelf
set_option linter.unusedVariables false

attribute [local go_sem] Oper.semAt_some

set_option maxHeartbeats 1000000 in
theorem backward_in (F : Fence) (n : Nat) (h23 : F.fn 42) (hro : F.round = none) (a : Option Addr) (len cap : Nat) (w : World) :
    CallsIn F n Tryz.prog 42 #[.slice a len cap] w fun e w' => e = .returned (.func (.func 61) #[] #[.pointer (some ⟨w.heap.size, 0, none⟩)]) ∧ w' = w.alloc (.cells #[.slice a len cap] 22) := by
  refine callsIn_of_wp Tryz.func42 rfl h23 ?_ hro
  simp only [Tryz.ntmps42, List.size_toArray, List.length_cons, List.length_nil, Nat.reduceAdd, Nat.reduceSub, Array.replicate_succ, Array.replicate_zero, List.push_toArray, List.append_toArray, List.nil_append, List.cons_append]
  gi_wp2
  go_ret
  exact ⟨rfl, rfl⟩

/-- The box of a range over Backward, and the bytes. -/
structure BBox (Bs : Nat) (a : Option Addr) (cap gb off : Nat) (bs : List Nat) (W : World) : Prop where
  box : W.heap[Bs]? = some (.cells #[.slice a bs.length cap] 22 (0, 0))
  row : Bytes W a cap gb off bs
def backV (bs : List Nat) (k : Nat) : Array Value := #[.int .i64 (k : Int), .int .u8 ((bs[k]?.getD 0 : Nat) : Int)]
def backR (bs : List Nat) (k : Nat) (vs : Array Value) (k' : Nat) (_ : World) : Prop := k = k' + 1 ∧ k ≤ bs.length ∧ vs = backV bs k'

set_option maxRecDepth 100000 in
set_option maxHeartbeats 4000000 in
theorem backward1_in (n : Nat) (hn : 1 ≤ n) (l Bs : Nat) (a : Option Addr) (cap gb off : Nat) (bs : List Nat) (J : Nat → World → Prop) (Jx : World → Prop)
    (hB : ∀ p W, J p W → BBox Bs a cap gb off bs W)
    (hY : ∀ p vs p' V, backR bs p vs p' V → J p V → YieldAt Fence.wide (n - 1) Tryz.prog l vs V fun e W' => (e = .returned (.bool true) ∧ J p' W') ∨ (e = .returned (.bool false) ∧ Jx W')) (W : World) (h0 : J bs.length W) :
    CallsIn Fence.wide n Tryz.prog 61 #[.func (.yield l) #[] #[], .pointer (some ⟨Bs, 0, none⟩)] W fun e W' => (∃ v, e = .returned v) ∧ (J 0 W' ∨ Jx W') := by
  have hb0 := hB _ _ h0
  have c1 : W.cell? ⟨Bs, 0, none⟩ = some (.slice a bs.length cap) := cell_of hb0.box 0
  have h48 := hb0.row.len
  have HB := (show Hid (∀ p W, J p W → BBox Bs a cap gb off bs W) from hB)
  have HY := (show Hid (∀ p vs p' V, backR bs p vs p' V → J p V → _) from hY)
  obtain ⟨N, hN⟩ : ∃ N, N = bs.length := ⟨_, rfl⟩
  have HN := (show Hid (N = bs.length) from hN)
  rw [← hN] at h48 c1 h0
  have hNI : (N : Int) < 281474976710656 := by omega
  clear hB hY hb0 hN h48
  refine callsIn_of_wp Tryz.func61 rfl trivial ?_ rfl
  simp only [Tryz.ntmps61, List.size_toArray, List.length_cons, List.length_nil, Nat.reduceAdd, Nat.reduceSub, Array.replicate_succ, Array.replicate_zero, List.push_toArray, List.append_toArray, List.nil_append, List.cons_append]
  gi_wp2
  clear c1
  gi_loopw [3] (fun v3 wr => ∃ (k : Nat), v3 = .int .i64 ((k : Int) - 1) ∧ k ≤ N ∧ J k wr) (fun v3 _ => (intOf v3 + 1).toNat)
  case atStart => exact ⟨N, rfl, Nat.le_refl _, h0⟩
  case round =>
    clear h0
    obtain ⟨k, rfl, hk, hJ⟩ := hrel
    cases k with
    | zero =>
      rw [show (((0 : Nat) : Int) - 1) = -1 from rfl]
      gi_wp2
      go_end0
      exact ⟨⟨_, rfl⟩, .inl hJ⟩
    | succ k =>
      rw [show (((k + 1 : Nat) : Int) - 1) = (k : Int) from by omega]
      have hkx : k < bs.length := by have := HN.out; omega
      have hbx := HB.out _ _ hJ
      obtain rfl := hbx.row.here hkx
      have c2 := hbx.row.cells k hkx
      have hx256 := hbx.row.lt k
      have c1 : wr.cell? ⟨Bs, 0, none⟩ = some (.slice (some ⟨gb, off, none⟩) bs.length cap) := cell_of hbx.box 0
      rw [← HN.out] at c1
      have hy2 := HY.out _ _ _ wr ⟨rfl, hkx, rfl⟩ hJ
      unfold backV at hy2
      generalize bs[k]?.getD 0 = x at *
      obtain ⟨fn, tmps, assign, body, hy, hR⟩ := hy2
      have hkI : (k : Int) < (N : Int) := by omega
      clear hbx hJ
      gi_wp2
      refine hR.mono ?_
      rintro e W3 (⟨rfl, hJ3⟩ | ⟨rfl, hJx3⟩)
      · gi_wp2
        go_roundw
        case rel => exact ⟨k, rfl, by omega, hJ3⟩
        case measure => simp [intOf]
      · gi_wp2
        refine bodyPost_ret (results_none rfl _ _ _) rfl ?_
        exact ⟨⟨_, rfl⟩, .inr hJx3⟩

end Go.Proofs.YtcoahkmiebeeeaaGreatDoor

namespace Go.Proofs.YtcoahkmiebeeeaaGreatDoor
open Go.RowKit Go.Shelf
set_option linter.unusedVariables false

theorem results_cell2 {fn : Func} {a b : Tmp} {t u : TypeId} (h : fn.results = #[.cell a t, .cell b u]) (tmps : Array Value) (P : Program) (w : World) (p q : Addr) (v x : Value) (ha : tmps[a]?.getD undef = .pointer (some p)) (hb : tmps[b]?.getD undef = .pointer (some q)) (hv : (loadVar t p).run P w = .ok v w) (hx : (loadVar u q).run P w = .ok x w) :
    (results fn tmps).run P w = .ok (.tuple #[v, x]) w := by
  simp [results, h, ha, hb, asAddr, hv, hx]
theorem agg22 : ∀ w, (isAgg 22).run Tryz.prog w = .ok false w := by intro w; kernel_rfl
theorem loadVar22 {w : World} {p : Addr} {v : Value} (h : w.cell? p = some v) : (loadVar 22 p).run Tryz.prog w = .ok v w := by
  simp only [loadVar, Sem.run_bind, agg22, Result.andThen]
  simp [run_load, h]
theorem agg23 : ∀ w, (isAgg 23).run Tryz.prog w = .ok false w := by intro w; kernel_rfl
theorem loadVar23 {w : World} {p : Addr} {v : Value} (h : w.cell? p = some v) : (loadVar 23 p).run Tryz.prog w = .ok v w := by
  simp only [loadVar, Sem.run_bind, agg23, Result.andThen]
  simp [run_load, h]

def zeros44 : Array Value := (List.replicate 256 [Value.int .u64 0, Value.int .i64 0]).flatten.toArray
theorem zero44 : Tryz.zeroCells86 = zeros44 := by kernel_rfl

/-- Block b is the array of words. -/
structure OfA (w : World) (b : Nat) (X N : Nat → Nat) : Prop where
  obj : ∃ cs, w.heap[b]? = some (.cells cs 86 (0, 0)) ∧ cs.size = 512 ∧ ∀ i, i < 256 → cs[i * 2]? = some (.int .u64 ((X i : Nat) : Int)) ∧ cs[i * 2 + 1]? = some (.int .i64 ((N i : Nat) : Int))
theorem OfA.cells {w : World} {b : Nat} {X N : Nat → Nat} (h : OfA w b X N) (i : Nat) (hi : i < 256) :
    w.cell? ⟨b, i * 2, none⟩ = some (.int .u64 ((X i : Nat) : Int)) ∧ w.cell? ⟨b, i * 2 + 1, none⟩ = some (.int .i64 ((N i : Nat) : Int)) := by
  obtain ⟨cs, h1, _, h3⟩ := h.obj
  rw [cell_of h1, cell_of h1]
  exact h3 i hi
theorem OfA.frozen {w : World} {b : Nat} {X N : Nat → Nat} (h : OfA w b X N) (i : Nat) : w.frozen? ⟨b, i, none⟩ = false := by
  obtain ⟨cs, h1, _⟩ := h.obj
  exact frozen_of h1 i
theorem OfA.lt {w : World} {b : Nat} {X N : Nat → Nat} (h : OfA w b X N) : b < w.heap.size := by
  obtain ⟨cs, h1, _⟩ := h.obj
  exact obj_lt h1
theorem OfA.keep {w w' : World} {S : Nat → Prop} {b : Nat} {X N : Nat → Nat} (h : OfA w b X N) (hk : Keep S w w') (hS : ¬ S b) : OfA w' b X N := by
  obtain ⟨cs, h1, h2⟩ := h.obj
  exact ⟨cs, hk.obj h1 hS, h2⟩
theorem OfA.keepN {w w' : World} {B : Nat} {b : Nat} {X N : Nat → Nat} (h : OfA w b X N) (hk : KeepN B w w') : OfA w' b X N := by
  obtain ⟨cs, h1, h2⟩ := h.obj
  exact ⟨cs, hk.obj h1, h2⟩
theorem OfA.congr {w : World} {b : Nat} {X N X' N' : Nat → Nat} (h : OfA w b X N) (h1 : ∀ i, i < 256 → X i = X' i) (h2 : ∀ i, i < 256 → N i = N' i) : OfA w b X' N' := by
  obtain ⟨cs, a1, a2, a3⟩ := h.obj
  refine ⟨cs, a1, a2, fun i hi => ?_⟩
  rw [← h1 i hi, ← h2 i hi]
  exact a3 i hi
theorem OfA.set {w : World} {b : Nat} {X N : Nat → Nat} (h : OfA w b X N) (i x n : Nat) : OfA ((w.setCell ⟨b, i * 2, none⟩ (.int .u64 (x : Int))).setCell ⟨b, i * 2 + 1, none⟩ (.int .i64 (n : Int))) b (fun j => if j = i then x else X j) (fun j => if j = i then n else N j) := by
  obtain ⟨cs, h1, h2, h3⟩ := h.obj
  refine ⟨_, set_obj (set_obj h1 _ _) _ _, by rw [Array.size_setIfInBounds, Array.size_setIfInBounds, h2], fun j hj => ?_⟩
  rw [Array.getElem?_setIfInBounds, Array.getElem?_setIfInBounds, Array.getElem?_setIfInBounds, Array.getElem?_setIfInBounds, Array.size_setIfInBounds, if_neg (show ¬ i * 2 + 1 = j * 2 by omega), if_neg (show ¬ i * 2 = j * 2 + 1 by omega)]
  by_cases e : i = j
  · subst e
    simp only [if_true]
    rw [if_pos (by omega), if_pos (by omega)]
    exact ⟨rfl, rfl⟩
  · have e1 : ¬ i * 2 = j * 2 := by omega
    have e2 : ¬ i * 2 + 1 = j * 2 + 1 := by omega
    have e3 : ¬ j = i := fun h => e h.symm
    simp only [if_neg e1, if_neg e2, if_neg e3]
    exact h3 j hj
theorem flat2 (n : Nat) (a b : Value) : ((List.replicate n [a, b]).flatten).length = 2 * n ∧ ∀ i, i < n → ((List.replicate n [a, b]).flatten)[i * 2]? = some a ∧ ((List.replicate n [a, b]).flatten)[i * 2 + 1]? = some b := by
  induction n with
  | zero => exact ⟨rfl, fun i hi => by omega⟩
  | succ n ih =>
    rw [List.replicate_succ, List.flatten_cons]
    refine ⟨by rw [List.length_append, ih.1]; simp; omega, fun i hi => ?_⟩
    cases i with
    | zero => exact ⟨rfl, rfl⟩
    | succ i =>
      obtain ⟨a1, a2⟩ := ih.2 i (by omega)
      refine ⟨?_, ?_⟩
      · rw [List.getElem?_append_right (by simp; omega)]; simpa [Nat.succ_mul] using a1
      · rw [List.getElem?_append_right (by simp; omega)]
        have e : (i + 1) * 2 + 1 - [a, b].length = i * 2 + 1 := by simp; omega
        rw [e]; exact a2
theorem ofA_zeros (w : World) : OfA (w.alloc (.cells Tryz.zeroCells86 86)) w.heap.size (fun _ => 0) (fun _ => 0) := by
  obtain ⟨h1, h2⟩ := flat2 256 (Value.int .u64 0) (Value.int .i64 0)
  rw [zero44]
  refine ⟨_, World.alloc_heap_new w _, by unfold zeros44; rw [List.size_toArray]; exact h1, fun i hi => ?_⟩
  unfold zeros44
  simp only [List.getElem?_toArray]
  exact h2 i hi

def ofX (ws pre : List Nat) (s : Nat) : Nat := if s ∈ pre then wordX ws s else 0
def ofN (ws : List Nat) (m : Nat) (pre : List Nat) (s : Nat) : Nat := if s ∈ pre then m + 1 - wt ws s else 0
theorem ofX_snoc (ws pre : List Nat) (s i : Nat) : (if i = s then wordX ws s else ofX ws pre i) = ofX ws (pre ++ [s]) i := by
  unfold ofX
  by_cases h : i = s
  · subst h; simp
  · simp [h]
theorem ofN_snoc (ws : List Nat) (m : Nat) (pre : List Nat) (s i : Nat) : (if i = s then m + 1 - wt ws s else ofN ws m pre i) = ofN ws m (pre ++ [s]) i := by
  unfold ofN
  by_cases h : i = s
  · subst h; simp
  · simp [h]
theorem wt_far (ws : List Nat) (i : Nat) (h : ws.length ≤ i) : wt ws i = 0 := by unfold wt; rw [List.getElem?_eq_none h]; rfl
theorem IsCode.mem {ws : List Nat} {m : Nat} (h : IsCode ws m) (s : Nat) : s ∈ ordC ws m ↔ wt ws s ≠ 0 := by
  rw [mem_ordC]
  constructor
  · rintro ⟨_, h2, _⟩; omega
  · intro h0
    have hs : s < ws.length := by
      by_cases e : s < ws.length
      · exact e
      · exact absurd (wt_far ws s (by omega)) h0
    exact ⟨hs, by omega, h.wt_le s hs⟩
theorem IsCode.ofX {ws : List Nat} {m : Nat} (h : IsCode ws m) (s : Nat) : ofX ws (ordC ws m) s = if wt ws s = 0 then 0 else wordX ws s := by
  unfold YtcoahkmiebeeeaaGreatDoor.ofX
  by_cases e : wt ws s = 0
  · rw [if_pos e, if_neg (fun q => ((h.mem s).1 q) e)]
  · rw [if_neg e, if_pos ((h.mem s).2 e)]
theorem IsCode.ofN {ws : List Nat} {m : Nat} (h : IsCode ws m) (s : Nat) : ofN ws m (ordC ws m) s = if wt ws s = 0 then 0 else m + 1 - wt ws s := by
  unfold YtcoahkmiebeeeaaGreatDoor.ofN
  by_cases e : wt ws s = 0
  · rw [if_pos e, if_neg (fun q => ((h.mem s).1 q) e)]
  · rw [if_neg e, if_pos ((h.mem s).2 e)]
theorem IsCode.wt_in {ws : List Nat} {m : Nat} (h : IsCode ws m) (s : Nat) (h0 : wt ws s ≠ 0) : s < ws.length ∧ wt ws s ≤ m := by
  have := (mem_ordC ws m s).1 ((h.mem s).2 h0)
  exact ⟨this.1, this.2.2⟩

def packL (ws : List Nat) (m : Nat) : List Nat → List (Fin 2)
  | [] => []
  | b :: l => packL ws m l ++ low (wordX ws b) (m + 1 - wt ws b)
theorem packL_drop (ws : List Nat) (m : Nat) (bs : List Nat) (k : Nat) (hk : k < bs.length) : packL ws m (bs.drop k) = packL ws m (bs.drop (k + 1)) ++ low (wordX ws (bs[k]?.getD 0)) (m + 1 - wt ws (bs[k]?.getD 0)) := by
  rw [List.drop_eq_getElem_cons hk, List.getElem?_eq_getElem hk]; rfl
theorem packL_len (ws : List Nat) (m : Nat) (bs : List Nat) : (packL ws m bs).length ≤ (m + 1) * bs.length := by
  induction bs with
  | nil => simp [packL]
  | cons b l ih =>
    rw [packL, List.length_append, low_length, List.length_cons, Nat.mul_succ]
    omega
def packOk (ws bs : List Nat) : Bool := decide (∀ b ∈ bs, wt ws b ≠ 0)

end Go.Proofs.YtcoahkmiebeeeaaGreatDoor

namespace Go.Proofs.YtcoahkmiebeeeaaGreatDoor
open Go.RowKit Go.Shelf
set_option linter.unusedVariables false

def ok2 : Nat → List Value → Bool
  | 0, [] => true
  | n + 1, a :: b :: r => isZ .u8 a && (isZ .u8 b && ok2 n r)
  | _, _ => false
theorem ok2_eq : ∀ (n : Nat) (l : List Value), ok2 n l = true → l = (List.replicate n [Value.int .u8 0, Value.int .u8 0]).flatten
  | 0, [], _ => rfl
  | 0, _ :: _, h => by simp [ok2] at h
  | n + 1, [], h => by simp [ok2] at h
  | n + 1, [_], h => by simp [ok2] at h
  | n + 1, a :: b :: r, h => by
    simp only [ok2, Bool.and_eq_true] at h
    rw [isZ_eq h.1, isZ_eq h.2.1, ok2_eq n r h.2.2, List.replicate_succ, List.flatten_cons]
    rfl
theorem chk105 : ok2 2048 Tryz.zeroCells144.toList = true := by kernel_rfl
theorem zero105 : Tryz.zeroCells144 = ((List.replicate 2048 [Value.int .u8 0, Value.int .u8 0]).flatten).toArray := by
  apply Array.ext'
  rw [List.toList_toArray]
  exact ok2_eq _ _ chk105

/-- Block b is the array of cells: symbols and lengths. -/
structure CelA (w : World) (b : Nat) (S N : Nat → Nat) : Prop where
  obj : ∃ cs, w.heap[b]? = some (.cells cs 144 (0, 0)) ∧ cs.size = 4096 ∧ ∀ i, i < 2048 → cs[i * 2]? = some (.int .u8 ((S i : Nat) : Int)) ∧ cs[i * 2 + 1]? = some (.int .u8 ((N i : Nat) : Int))
theorem CelA.cells {w : World} {b : Nat} {S N : Nat → Nat} (h : CelA w b S N) (i : Nat) (hi : i < 2048) :
    w.cell? ⟨b, i * 2, none⟩ = some (.int .u8 ((S i : Nat) : Int)) ∧ w.cell? ⟨b, i * 2 + 1, none⟩ = some (.int .u8 ((N i : Nat) : Int)) := by
  obtain ⟨cs, h1, _, h3⟩ := h.obj
  rw [cell_of h1, cell_of h1]
  exact h3 i hi
theorem CelA.frozen {w : World} {b : Nat} {S N : Nat → Nat} (h : CelA w b S N) (i : Nat) : w.frozen? ⟨b, i, none⟩ = false := by
  obtain ⟨cs, h1, _⟩ := h.obj
  exact frozen_of h1 i
theorem CelA.lt {w : World} {b : Nat} {S N : Nat → Nat} (h : CelA w b S N) : b < w.heap.size := by
  obtain ⟨cs, h1, _⟩ := h.obj
  exact obj_lt h1
theorem CelA.keep {w w' : World} {T : Nat → Prop} {b : Nat} {S N : Nat → Nat} (h : CelA w b S N) (hk : Keep T w w') (hS : ¬ T b) : CelA w' b S N := by
  obtain ⟨cs, h1, h2⟩ := h.obj
  exact ⟨cs, hk.obj h1 hS, h2⟩
theorem CelA.keepN {w w' : World} {B : Nat} {b : Nat} {S N : Nat → Nat} (h : CelA w b S N) (hk : KeepN B w w') : CelA w' b S N := by
  obtain ⟨cs, h1, h2⟩ := h.obj
  exact ⟨cs, hk.obj h1, h2⟩
theorem CelA.congr {w : World} {b : Nat} {S N S' N' : Nat → Nat} (h : CelA w b S N) (h1 : ∀ i, i < 2048 → S i = S' i) (h2 : ∀ i, i < 2048 → N i = N' i) : CelA w b S' N' := by
  obtain ⟨cs, a1, a2, a3⟩ := h.obj
  refine ⟨cs, a1, a2, fun i hi => ?_⟩
  rw [← h1 i hi, ← h2 i hi]
  exact a3 i hi
theorem CelA.set {w : World} {b : Nat} {S N : Nat → Nat} (h : CelA w b S N) (i x n : Nat) : CelA ((w.setCell ⟨b, i * 2, none⟩ (.int .u8 (x : Int))).setCell ⟨b, i * 2 + 1, none⟩ (.int .u8 (n : Int))) b (fun j => if j = i then x else S j) (fun j => if j = i then n else N j) := by
  obtain ⟨cs, h1, h2, h3⟩ := h.obj
  refine ⟨_, set_obj (set_obj h1 _ _) _ _, by rw [Array.size_setIfInBounds, Array.size_setIfInBounds, h2], fun j hj => ?_⟩
  rw [Array.getElem?_setIfInBounds, Array.getElem?_setIfInBounds, Array.getElem?_setIfInBounds, Array.getElem?_setIfInBounds, Array.size_setIfInBounds, if_neg (show ¬ i * 2 + 1 = j * 2 by omega), if_neg (show ¬ i * 2 = j * 2 + 1 by omega)]
  by_cases e : i = j
  · subst e
    simp only [if_true]
    rw [if_pos (by omega), if_pos (by omega)]
    exact ⟨rfl, rfl⟩
  · have e1 : ¬ i * 2 = j * 2 := by omega
    have e2 : ¬ i * 2 + 1 = j * 2 + 1 := by omega
    have e3 : ¬ j = i := fun h => e h.symm
    simp only [if_neg e1, if_neg e2, if_neg e3]
    exact h3 j hj
theorem celA_zeros (w : World) : CelA (w.alloc (.cells Tryz.zeroCells144 144)) w.heap.size (fun _ => 0) (fun _ => 0) := by
  obtain ⟨h1, h2⟩ := flat2 2048 (Value.int .u8 0) (Value.int .u8 0)
  rw [zero105]
  refine ⟨_, World.alloc_heap_new w _, by rw [List.size_toArray]; exact h1, fun i hi => ?_⟩
  simp only [List.getElem?_toArray]
  exact h2 i hi
theorem info105 : (Tryz.prog.info? 144).map (·.size) = some 4096 := by kernel_rfl
theorem cells_one {cs : Array Value} {S N : Nat → Nat} (h1 : cs.size = 4096) (h2 : ∀ i, i < 2048 → cs[i * 2]? = some (.int .u8 ((S i : Nat) : Int)) ∧ cs[i * 2 + 1]? = some (.int .u8 ((N i : Nat) : Int))) : cs.all (·.oneCell') = true := by
  rw [Array.all_eq_true]
  intro i hi
  obtain ⟨a1, a2⟩ := h2 (i / 2) (by omega)
  by_cases e : i % 2 = 0
  · rw [show i / 2 * 2 = i from by omega, Array.getElem?_eq_getElem hi] at a1
    rw [Option.some.inj a1]; rfl
  · rw [show i / 2 * 2 + 1 = i from by omega, Array.getElem?_eq_getElem hi] at a2
    rw [Option.some.inj a2]; rfl

def tS (l : List Nat) (x : Nat) : Nat := l[x]?.getD 0
def tN (ws : List Nat) (m : Nat) (l : List Nat) (x : Nat) : Nat := if x < l.length then m + 1 - wt ws (l[x]?.getD 0) else 0
theorem tS_snoc (l : List Nat) (s x : Nat) : (if x = l.length then s else tS l x) = tS (l ++ [s]) x := by
  unfold tS
  by_cases h : x = l.length
  · subst h; simp
  · rw [if_neg h]
    by_cases h2 : x < l.length
    · rw [List.getElem?_append_left h2]
    · rw [List.getElem?_eq_none (by omega), List.getElem?_eq_none (by simp; omega)]
theorem tN_snoc (ws : List Nat) (m : Nat) (l : List Nat) (s x : Nat) : (if x = l.length then m + 1 - wt ws s else tN ws m l x) = tN ws m (l ++ [s]) x := by
  unfold tN
  by_cases h : x = l.length
  · subst h; simp
  · rw [if_neg h]
    by_cases h2 : x < l.length
    · rw [if_pos h2, if_pos (by simp; omega), List.getElem?_append_left h2]
    · rw [if_neg h2, if_neg (by simp; omega)]
theorem rep_snoc (j s : Nat) (l : List Nat) : l ++ List.replicate (j + 1) s = (l ++ List.replicate j s) ++ [s] := by
  rw [List.replicate_succ', List.append_assoc]

end Go.Proofs.YtcoahkmiebeeeaaGreatDoor
