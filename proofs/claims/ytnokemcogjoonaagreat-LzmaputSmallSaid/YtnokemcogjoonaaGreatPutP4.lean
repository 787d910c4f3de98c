/-
  Slices of bytes: cut, copied, appended, made.
  alike and dear; a middle piece of a slice of bytes.
  A state as it lies, with a decoder; a bit by one of its chances.
  Trees: a walk, a number, a number backwards, a byte that is like another one.
  Trees: a number, a number backwards, a byte that is like another one.
  Lengths and distances.
-/
import Derived.Laws.CopyRow
import Derived.Laws.IdiomCopy
import Derived.Deep.OwnRows
import Derived.Test.YtnokemcogjoonaaGreatPutP3
namespace Go.Proofs.YtnokemcogjoonaaGreat.Fd
open Go.RowKit Go.Shelf
set_option linter.unusedVariables false

theorem info5 : (Tryz.prog.info? 5).map (fun i => (i.zero, i.size, i.bytes)) = some (some (.int .u8 0), 1, 1) := by kernel_rfl
theorem size5 : (Tryz.prog.info? 5).map (·.size) = some 1 := by kernel_rfl

/-- Bytes as values. -/
def u8s (bs : List Nat) : List Value := bs.map (fun b => Value.int .u8 ((b : Nat) : Int))
theorem u8s_length (bs : List Nat) : (u8s bs).length = bs.length := by simp [u8s]
theorem u8s_one (bs : List Nat) : ∀ u ∈ u8s bs, u.oneCell' = true := by
  intro u hu
  simp only [u8s, List.mem_map] at hu
  obtain ⟨b, _, rfl⟩ := hu
  rfl
theorem u8s_at (bs : List Nat) (j : Nat) (hj : j < bs.length) : (u8s bs)[j]? = some (.int .u8 ((bs[j]?.getD 0 : Nat) : Int)) := by
  simp [u8s, hj]
theorem u8s_app (a b : List Nat) : u8s (a ++ b) = u8s a ++ u8s b := by simp [u8s]
theorem u8s_take (a : List Nat) (k : Nat) : (u8s a).take k = u8s (a.take k) := by simp [u8s, List.map_take]
theorem u8s_drop (a : List Nat) (k : Nat) : (u8s a).drop k = u8s (a.drop k) := by simp [u8s, List.map_drop]
theorem u8s_inj {a b : List Nat} (h : u8s a = u8s b) : a = b := by
  unfold u8s at h
  refine List.map_inj_right ?_ |>.1 h
  intro x y e
  simp only [Value.int.injEq, true_and] at e
  omega
theorem add0 (g j : Nat) : (⟨g, 0, none⟩ : Addr).add j = ⟨g, j, none⟩ := by unfold Addr.add; split <;> simp_all
theorem addO (g o j : Nat) : (⟨g, o, none⟩ : Addr).add j = ⟨g, o + j, none⟩ := by unfold Addr.add; split <;> simp_all
theorem keep_setRow {S : Nat → Prop} {a w : World} (h : Keep S a w) (g : Nat) (hg : g < a.heap.size → S g) (cs : Array Value) : Keep S a (w.setRow g cs) :=
  h.trans (T := fun k => k = g) ⟨rfl, rfl, rfl, by simp [World.setRow], fun k _ hk => setRow_other w g k cs hk⟩ (fun i hi e => by subst e; exact hg hi)

/-- The slice reads as the bytes bs. -/
structure Bytes (w : World) (a : Option Addr) (cap gb off : Nat) (bs : List Nat) : Prop where
  at_ : a = some ⟨gb, off, none⟩ ∨ bs = []
  nil : a = none → cap = 0
  cells : ∀ j, j < bs.length → w.cell? ⟨gb, off + j, none⟩ = some (.int .u8 ((bs[j]?.getD 0 : Nat) : Int))
  lt : ∀ j : Nat, bs[j]?.getD 0 < 256
  cap : bs.length ≤ cap
  len : bs.length < 2 ^ 48
theorem Bytes.block {w : World} {a : Option Addr} {cap gb off : Nat} {bs : List Nat} (h : Bytes w a cap gb off bs) (hb : bs ≠ []) : gb < w.heap.size :=
  World.block_lt_of_cell? w ⟨gb, off + 0, none⟩ (h.cells 0 (List.length_pos_iff.2 hb))
theorem Bytes.keep {w w' : World} {S : Nat → Prop} {a : Option Addr} {cap gb off : Nat} {bs : List Nat} (h : Bytes w a cap gb off bs) (hk : Keep S w w') (hS : bs ≠ [] → ¬ S gb) : Bytes w' a cap gb off bs :=
  ⟨h.at_, h.nil, fun j hj => by
    have hne : bs ≠ [] := by rintro rfl; simp at hj
    exact (World.cell?_of_block (hk.block gb (h.block hne) (hS hne))).trans (h.cells j hj), h.lt, h.cap, h.len⟩
/-- What append and copy read. -/
def SrcB (w : World) (v : Value) (bs : List Nat) : Prop := (v = .slice none 0 0 ∧ bs = []) ∨ ∃ a cap, v = .slice (some a) bs.length cap ∧ ∀ j u, (u8s bs)[j]? = some u → w.cell? (a.add j) = some u
theorem Bytes.src {w : World} {a : Option Addr} {cap gb off : Nat} {bs : List Nat} (h : Bytes w a cap gb off bs) : SrcB w (.slice a bs.length cap) bs := by
  cases a with
  | none =>
    have h1 := h.nil rfl
    have h2 := h.cap
    have : bs = [] := List.length_eq_zero_iff.1 (by omega)
    subst this
    exact .inl ⟨by rw [h1]; rfl, rfl⟩
  | some ad =>
    refine .inr ⟨ad, cap, rfl, fun j u hu => ?_⟩
    have hj : j < bs.length := by rw [← u8s_length]; exact (List.getElem?_eq_some_iff.1 hu).1
    rcases h.at_ with e | e
    · cases e
      rw [addO, h.cells j hj, ← u8s_at bs j hj, hu]
    · subst e; simp at hj

/-- The slice operation by a name of one's own. -/
def sliceSem (t : TypeId) (x : Value) (lo hi mx : Option Value) : Sem Value := Instr.slice t x lo hi mx
theorem sliceSem_eq (t : TypeId) (x : Value) (lo hi mx : Option Value) : Instr.slice t x lo hi mx = sliceSem t x lo hi mx := rfl

theorem run_low (a : Option Addr) (len cap k : Nat) (h1 : k ≤ len) (w : World) :
    (sliceSem 22 (.slice a len cap) (some (.int .i64 (k : Int))) none none).run Tryz.prog w = .ok (.slice (if cap = k then a else a.map (fun x => x.add k)) (len - k) (cap - k)) w := by
  obtain ⟨i0, hi, hz0, hz1, hz2⟩ := info_parts info5
  simp [sliceSem, Instr.slice, run_underlying Tryz.underlying22, Instr.sliceBounds, Instr.sliceBound, asIntOf, h1, sizeOf, typeInfo, hi, hz1]
theorem run_high (a : Option Addr) (len cap k : Nat) (h1 : k ≤ cap) (w : World) :
    (sliceSem 22 (.slice a len cap) none (some (.int .i64 (k : Int))) none).run Tryz.prog w = .ok (.slice a k cap) w := by
  obtain ⟨i0, hi, hz0, hz1, hz2⟩ := info_parts info5
  have e : (if cap = 0 then a else a.map (fun x => x.add 0)) = a := by
    split
    · rfl
    · cases a <;> simp [Addr.add]
  simp [sliceSem, Instr.slice, run_underlying Tryz.underlying22, Instr.sliceBounds, Instr.sliceBound, asIntOf, h1, sizeOf, typeInfo, hi, e]

theorem Bytes.drop {w : World} {a : Option Addr} {cap gb off : Nat} {bs : List Nat} (h : Bytes w a cap gb off bs) (k : Nat) (hk : k ≤ bs.length) :
    ∃ a' off', (∀ W, (sliceSem 22 (.slice a bs.length cap) (some (.int .i64 (k : Int))) none none).run Tryz.prog W = .ok (.slice a' (bs.drop k).length (cap - k)) W) ∧ Bytes w a' (cap - k) gb off' (bs.drop k) ∧ (bs.drop k ≠ [] → off' = off + k) := by
  have hc := h.cap
  have hl := h.len
  refine ⟨if cap = k then a else a.map (fun x => x.add k), if cap = k then off else off + k, fun W => by rw [run_low a bs.length cap k hk W, List.length_drop], ⟨?_, ?_, ?_, lt_drop h.lt k, by rw [List.length_drop]; omega, by rw [List.length_drop]; omega⟩, ?_⟩
  · rcases h.at_ with e | e
    · left
      subst e
      split
      · rfl
      · simp [addO]
    · right; rw [e]; simp
  · intro e
    split at e
    · have := h.nil e; omega
    · rw [Option.map_eq_none_iff] at e
      have := h.nil e; omega
  · intro j hj
    rw [List.length_drop] at hj
    have := h.cells (k + j) (by omega)
    rw [List.getElem?_drop, if_neg (by omega), Nat.add_assoc]
    exact this
  · intro hne
    have : 0 < (bs.drop k).length := List.length_pos_iff.2 hne
    rw [List.length_drop] at this
    rw [if_neg (by omega)]
theorem Bytes.take {w : World} {a : Option Addr} {cap gb off : Nat} {bs : List Nat} (h : Bytes w a cap gb off bs) (k : Nat) (hk : k ≤ bs.length) :
    (∀ W, (sliceSem 22 (.slice a bs.length cap) none (some (.int .i64 (k : Int))) none).run Tryz.prog W = .ok (.slice a (bs.take k).length cap) W) ∧ Bytes w a cap gb off (bs.take k) := by
  have hc := h.cap
  have hl := h.len
  have e : (bs.take k).length = k := by rw [List.length_take]; omega
  refine ⟨fun W => by rw [run_high a bs.length cap k (by omega) W, e], ⟨?_, h.nil, ?_, lt_take h.lt k, by omega, by omega⟩⟩
  · rcases h.at_ with e | e
    · exact .inl e
    · right; rw [e]; simp
  · intro j hj
    rw [e] at hj
    rw [List.getElem?_take, if_pos hj]
    exact h.cells j (by omega)

/-- copy into a row, from o on. -/
theorem run_copy_any (w : World) (ty : TypeId) (g o dl dc : Nat) (da : Option Addr) (v : Value) (bs : List Nat) (cur : Array Value) (t : Nat) (hv : SrcB w v bs) (ht : t = min bs.length dl)
    (hda : da = some ⟨g, o, none⟩ ∨ t = 0) (hg : w.heap[g]? = some (.cells cur 5 (0, 0))) (hfit : o + t ≤ cur.size) :
    (Builtin.copy_ #[22, 22] ty #[.slice da dl dc, v]).run Tryz.prog w = .ok (.int .i64 (t : Int)) (w.setRow g (cur.toList.take o ++ u8s (bs.take t) ++ cur.toList.drop (o + t)).toArray) := by
  by_cases h0 : t = 0
  · subst h0
    have e : (cur.toList.take o ++ u8s (bs.take 0) ++ cur.toList.drop (o + 0)).toArray = cur := by simp [u8s]
    rw [e, setRow_self w g cur 5 (0, 0) hg]
    have hmin : Nat.min bs.length dl = 0 := ht.symm
    rcases hv with ⟨rfl, rfl⟩ | ⟨a, cap, rfl, hc⟩
    · exact run_copy_none (P := Tryz.prog) w 22 22 ty 5 da none dl dc 0 0 Tryz.underlying22 size5 (by simp)
    · exact run_copy_none (P := Tryz.prog) w 22 22 ty 5 da (some a) dl dc bs.length cap Tryz.underlying22 size5 hmin
  · rcases hda with rfl | e
    · rcases hv with ⟨rfl, rfl⟩ | ⟨a, cap, rfl, hc⟩
      · simp at ht; omega
      · have hl : (bs.take t).length = t := by rw [List.length_take]; omega
        have := run_copy_row Tryz.prog w 22 22 ty 5 g o dl dc a bs.length cap cur 5 (u8s (bs.take t)) Tryz.underlying22 size5 hg (by rw [u8s_length, hl]; exact ht)
          (fun j u hu => hc j u (by
            rw [← u8s_take] at hu
            rw [List.getElem?_take] at hu
            split at hu
            · exact hu
            · cases hu)) (by rw [u8s_length, hl]; exact hfit) (u8s_one _)
        rw [u8s_length, hl] at this
        exact this
    · exact absurd e h0

/-- append onto a row of one's own, from whatever slice of bytes. -/
theorem run_append_all (w : World) (ty : TypeId) (v : Value) (M bs : List Nat) (hown : w.ownsRow 0 5 1 v M.length (u8s M)) (hlen : M.length + bs.length ≤ 1099511627776) (sv : Value) (h : SrcB w sv bs) :
    ∃ v' w', (Builtin.append_ #[22, 22] ty #[v, sv]).run Tryz.prog w = .ok v' w' ∧ w'.ownsRow 0 5 1 v' (M ++ bs).length (u8s (M ++ bs)) ∧ Keep (fun k => v.ownBlock = some k) w w' ∧ (v'.ownBlock = v.ownBlock ∨ ∃ k, v'.ownBlock = some k ∧ w.heap.size ≤ k) := by
  obtain ⟨i0, hi, hz0, hz1, hz2⟩ := info_parts info5
  have happ : u8s (M ++ bs) = u8s M ++ u8s bs := by simp [u8s]
  rcases h with ⟨rfl, rfl⟩ | ⟨a, c, rfl, hc⟩
  · refine ⟨v, w, ?_, by simpa using hown, Keep.refl _ _, .inl rfl⟩
    rcases hown.2 with ⟨rfl, h0⟩ | ⟨g, cap, cur, rfl, _, hg, hr1, hr2, _⟩
    · simp [Builtin.append_, run_underlying Tryz.underlying22, sizeOf, typeInfo, hi, Builtin.lenOf, go_sem]
    · have hcap : M.length ≤ cap := by omega
      simp [Builtin.append_, run_underlying Tryz.underlying22, sizeOf, typeInfo, hi, Builtin.lenOf, go_sem, hcap]
  · obtain ⟨v', w', hr, h2, h3, h4, h5⟩ := run_append_own_at (P := Tryz.prog) w 0 22 ty 5 i0 (.int .u8 0) 1 1 Tryz.underlying22 hi hz0 hz1 hz2 rfl (by decide) v M.length (u8s M) hown a bs.length c (u8s bs) (by simp [u8s_length]) hc (u8s_one bs) (by unfold maxLen; omega) (by omega) (Nat.zero_le _)
    refine ⟨v', w', hr, by rw [List.length_append, happ]; exact h2, (Keep.refl _ w).grown h3 (fun k e _ => e), ?_⟩
    rcases h5 with e | e
    · exact .inl e
    · exact .inr ⟨_, e, Nat.le_refl _⟩

theorem owns_kept {w w' : World} {S : Nat → Prop} {base : Nat} {v : Value} {n : Nat} {xs : List Value} (h : w.ownsRow base 5 1 v n xs) (hk : Keep S w w') (hS : ∀ g, v.ownBlock = some g → ¬ S g) : w'.ownsRow base 5 1 v n xs := by
  refine ⟨h.1, ?_⟩
  rcases h.2 with ⟨e, h0⟩ | ⟨g, cap, cur, rfl, hb, hg, hr⟩
  · exact .inl ⟨e, h0⟩
  · exact .inr ⟨g, cap, cur, rfl, hb, hk.obj hg (hS g rfl), hr⟩
theorem owns_ne {w : World} {base n e t : Nat} {v : Value} {xs : List Value} {wb : Nat} {cs : Array Value} (h : w.ownsRow base e 1 v n xs) (ho : w.heap[wb]? = some (.cells cs t (0, 0))) (hte : t ≠ e) : v.ownBlock ≠ some wb := by
  intro hv
  rcases h.2 with ⟨rfl, _⟩ | ⟨g, cap, cur, rfl, _, hg, _⟩
  · cases hv
  · obtain rfl : g = wb := by simpa [Value.ownBlock] using hv
    rw [ho] at hg; simp at hg; exact hte hg.2
/-- A row of one's own, as a slice of bytes. -/
theorem bytes_own {w : World} {v : Value} {M : List Nat} (h : w.ownsRow 0 5 1 v M.length (u8s M)) (hlt : ∀ j : Nat, M[j]?.getD 0 < 256) (hl : M.length < 2 ^ 48) : ∃ a cap g, v = .slice a M.length cap ∧ Bytes w a cap g 0 M ∧ (a = none ∧ M = [] ∨ a = some ⟨g, 0, none⟩ ∧ ∃ cur, w.heap[g]? = some (.cells cur 5 (0, 0)) ∧ cur.size = cap ∧ cur.toList.take M.length = u8s M ∧ cap ≤ maxLen) := by
  rcases h.2 with ⟨e, h0⟩ | ⟨g, cap, cur, e, hb, hg, h1, h2, h3, h4⟩
  · have : M = [] := List.length_eq_zero_iff.1 h0
    subst this
    exact ⟨none, 0, 0, e, ⟨.inr rfl, fun _ => rfl, fun j hj => by simp at hj, hlt, Nat.le_refl _, hl⟩, .inl ⟨rfl, rfl⟩⟩
  · subst e
    rw [Nat.mul_one] at h3 h4
    refine ⟨some ⟨g, 0, none⟩, cap, g, rfl, ⟨.inl rfl, (fun e => by cases e), fun j hj => ?_, hlt, h1, hl⟩, .inr ⟨rfl, cur, hg, h3, h4, h2⟩⟩
    have := h.cells (g := g) rfl j _ (u8s_at M j hj)
    rw [add0] at this
    rw [Nat.zero_add]; exact this
theorem owns_mk {w : World} {g cap : Nat} {cur : Array Value} {M : List Nat} (hg : w.heap[g]? = some (.cells cur 5 (0, 0))) (h1 : M.length ≤ cap) (h2 : cap ≤ maxLen) (h3 : cur.size = cap) (h4 : cur.toList.take M.length = u8s M) : w.ownsRow 0 5 1 (.slice (some ⟨g, 0, none⟩) M.length cap) M.length (u8s M) :=
  ⟨by rw [u8s_length, Nat.mul_one], .inr ⟨g, cap, cur, rfl, Nat.zero_le _, hg, h1, h2, by rw [h3, Nat.mul_one], by rw [Nat.mul_one]; exact h4⟩⟩

theorem made_u8 (n : Nat) : madeCells #[.int .u8 0] n = (u8s (List.replicate n 0)).toArray := by
  refine Array.ext (by simp [size_madeCells, u8s]) fun i h1 h2 => ?_
  simp [madeCells, u8s, Nat.mod_one]
/-- make of l bytes, room for c. -/
theorem run_make_u8 (l c : Nat) (hlc : l ≤ c) (hc : c ≤ 281474976710656) (w : World) :
    (Instr.makeSlice 22 (.int .i64 (l : Int)) (.int .i64 (c : Int))).run Tryz.prog w = .ok (.slice (some ⟨w.heap.size, 0, none⟩) l c) (w.alloc (.cells (u8s (List.replicate c 0)).toArray 5)) := by
  obtain ⟨i0, hi, hz0, hz1, hz2⟩ := info_parts info5
  have hr := run_make (P := Tryz.prog) w 22 5 i0 (.int .u8 0) Tryz.underlying22 hi hz0 .i64 .i64 (l : Int) (c : Int) (by omega) (by omega) (by rw [hz2]; omega) (by omega)
  simp only [Int.toNat_natCast, hz1, Nat.mul_one] at hr
  rw [show (Value.int .u8 0).cells = #[.int .u8 0] from rfl, made_u8] at hr
  exact hr

end Go.Proofs.YtnokemcogjoonaaGreat.Fd

namespace Go.Proofs.YtnokemcogjoonaaGreat.Fd
open Go.RowKit Go.Shelf
set_option linter.unusedVariables false

theorem run_mid (gb off len cap lo hi : Nat) (h1 : lo < hi) (h2 : hi ≤ cap) (w : World) :
    (sliceSem 22 (.slice (some ⟨gb, off, none⟩) len cap) (some (.int .i64 (lo : Int))) (some (.int .i64 (hi : Int))) none).run Tryz.prog w = .ok (.slice (some ⟨gb, off + lo, none⟩) (hi - lo) (cap - lo)) w := by
  obtain ⟨i0, hi0, hz0, hz1, hz2⟩ := info_parts info5
  have e : ¬ cap = lo := by omega
  have e1 : lo ≤ hi := by omega
  simp [sliceSem, Instr.slice, run_underlying Tryz.underlying22, Instr.sliceBounds, Instr.sliceBound, asIntOf, h2, e1, sizeOf, typeInfo, hi0, hz1, e, addO]


end Go.Proofs.YtnokemcogjoonaaGreat.Fd

namespace Go.Proofs.YtnokemcogjoonaaGreat
open Go.RowKit Go.Shelf
set_option linter.unusedVariables false

/-- The cells of a state. -/
structure Cells (cs : Array Value) (s : Se) (c : Nat → Nat) : Prop where
  size : cs.size = 14143
  e0 : cs[0]? = some (.int .i64 (s.lc : Int))
  e1 : cs[1]? = some (.int .i64 (s.lp : Int))
  e2 : cs[2]? = some (.int .i64 (s.pb : Int))
  e3 : cs[3]? = some (.int .u8 (s.ph : Int))
  e4 : cs[4]? = some (.int .u32 (s.r0 : Int))
  e5 : cs[5]? = some (.int .u32 (s.r1 : Int))
  e6 : cs[6]? = some (.int .u32 (s.r2 : Int))
  e7 : cs[7]? = some (.int .u32 (s.r3 : Int))
  ch : ∀ i, 8 ≤ i → i < 14143 → cs[i]? = some (.int .u16 ((c i : Nat) : Int))
structure SeOk (s : Se) : Prop where
  lc : s.lc + s.lp ≤ 4
  pb : s.pb ≤ 4
  ph : s.ph < 12
  r0 : s.r0 < 4294967296
  r1 : s.r1 < 4294967296
  r2 : s.r2 < 4294967296
  r3 : s.r3 < 4294967296
/-- Block b is a state. -/
structure IsS (w : World) (b : Nat) (s : Se) (c : Nat → Nat) : Prop where
  obj : ∃ cs, w.heap[b]? = some (.cells cs 108 (0, 0)) ∧ Cells cs s c
  ok : SeOk s
  lt : ∀ i, c i < 65536
theorem IsS.keep {w w' : World} {S : Nat → Prop} {b : Nat} {s : Se} {c : Nat → Nat} (h : IsS w b s c) (hk : Keep S w w') (h1 : ¬ S b) : IsS w' b s c := by
  obtain ⟨cs, ho, hc⟩ := h.obj
  exact ⟨⟨cs, hk.obj ho h1, hc⟩, h.ok, h.lt⟩
theorem IsS.block {w : World} {b : Nat} {s : Se} {c : Nat → Nat} (h : IsS w b s c) : b < w.heap.size := by
  obtain ⟨cs, ho, hc⟩ := h.obj
  exact obj_lt ho
theorem IsS.ne {w : World} {b k : Nat} {s : Se} {c : Nat → Nat} {cs : Array Value} {t : TypeId} (h : IsS w b s c) (ho : w.heap[k]? = some (.cells cs t (0, 0))) (ht : t ≠ 108) : b ≠ k := by
  obtain ⟨cs', ho', hc⟩ := h.obj
  exact ne_of_type ho' ho (fun e => ht e.symm)
theorem Cells.put {cs : Array Value} {s : Se} {c : Nat → Nat} (h : Cells cs s c) (i x : Nat) (h8 : 8 ≤ i) : Cells (cs.setIfInBounds i (.int .u16 (x : Int))) s (putC c i x) := by
  have hs := h.size
  have far : ∀ k, k < 8 → (cs.setIfInBounds i (.int .u16 (x : Int)))[k]? = cs[k]? := fun k hk => by
    rw [Array.getElem?_setIfInBounds, if_neg (by omega)]
  refine ⟨by rw [Array.size_setIfInBounds]; exact hs, (far 0 (by omega)).trans h.e0, (far 1 (by omega)).trans h.e1, (far 2 (by omega)).trans h.e2, (far 3 (by omega)).trans h.e3, (far 4 (by omega)).trans h.e4, (far 5 (by omega)).trans h.e5, (far 6 (by omega)).trans h.e6, (far 7 (by omega)).trans h.e7, fun k k1 k2 => ?_⟩
  rw [Array.getElem?_setIfInBounds]
  unfold putC
  by_cases e : i = k
  · subst e
    rw [if_pos rfl, if_pos rfl, if_pos (by omega)]
  · rw [if_neg e, if_neg (fun q => e q.symm)]
    exact h.ch k k1 k2
/-- What lies in a state's first cells. -/
theorem IsS.first {w : World} {b : Nat} {s : Se} {c : Nat → Nat} (h : IsS w b s c) :
    w.cell? ⟨b, 0, none⟩ = some (.int .i64 (s.lc : Int)) ∧ w.cell? ⟨b, 1, none⟩ = some (.int .i64 (s.lp : Int)) ∧ w.cell? ⟨b, 2, none⟩ = some (.int .i64 (s.pb : Int)) ∧ w.cell? ⟨b, 3, none⟩ = some (.int .u8 (s.ph : Int)) ∧
    w.cell? ⟨b, 4, none⟩ = some (.int .u32 (s.r0 : Int)) ∧ w.cell? ⟨b, 5, none⟩ = some (.int .u32 (s.r1 : Int)) ∧ w.cell? ⟨b, 6, none⟩ = some (.int .u32 (s.r2 : Int)) ∧ w.cell? ⟨b, 7, none⟩ = some (.int .u32 (s.r3 : Int)) ∧
    ∀ i, w.frozen? ⟨b, i, none⟩ = false := by
  obtain ⟨cs, ho, hc⟩ := h.obj
  exact ⟨(cell_of ho 0).trans hc.e0, (cell_of ho 1).trans hc.e1, (cell_of ho 2).trans hc.e2, (cell_of ho 3).trans hc.e3, (cell_of ho 4).trans hc.e4, (cell_of ho 5).trans hc.e5, (cell_of ho 6).trans hc.e6, (cell_of ho 7).trans hc.e7, fun i => frozen_of ho i⟩
/-- A state and a decoder. -/
structure Pr (w : World) (sb db gb : Nat) (s : Se) (x : Cx) : Prop where
  st : IsS w sb s x.c
  de : IsD w db gb x.d
  ne : gb ≠ sb
/-- What reading may turn. -/
def SD (sb db k : Nat) : Prop := k = db ∨ k = sb
theorem Pr.keep {w w' : World} {S : Nat → Prop} {sb db gb : Nat} {s : Se} {x : Cx} (h : Pr w sb db gb s x) (hk : Keep S w w') (h1 : ¬ S sb) (h2 : ¬ S db) (h3 : ¬ S gb) : Pr w' sb db gb s x :=
  ⟨h.st.keep hk h1, h.de.keep hk h2 h3, h.ne⟩
theorem Pr.sd {w : World} {sb db gb : Nat} {s : Se} {x : Cx} (h : Pr w sb db gb s x) : sb ≠ db := by
  obtain ⟨a, cap, off, ho, hB⟩ := h.de.obj
  exact h.st.ne ho (by decide)
theorem Pr.same {w : World} {sb db gb : Nat} {s : Se} {x : Cx} (h : Pr w sb db gb s x) {W : World} (e1 : W.heap = w.heap) (e2 : W.os = w.os) (e3 : W.tape = w.tape) (e4 : W.output = w.output) : Pr W sb db gb s x :=
  h.keep (S := noBlock) ((Keep.refl _ w).same e1 e2 e3 e4) (fun h => h) (fun h => h) (fun h => h)
theorem bitI_N (b : Bool) : bitI b = ((bN b : Nat) : Int) := by cases b <;> rfl
theorem bit_any (sb db gb i : Nat) (s : Se) (x : Cx) (w : World) (h : Pr w sb db gb s x) (h8 : 8 ≤ i) (hi : i < 14143) :
    Calls Tryz.prog 73 #[.pointer (some ⟨db, 0, none⟩), .pointer (some ⟨sb, i, none⟩)] w fun e w' => e = .returned (.int .i64 ((bN (bitX x i) : Nat) : Int)) ∧ Pr w' sb db gb s (stepX x i) ∧ Keep (SD sb db) w w' := by
  obtain ⟨cs, ho, hc⟩ := h.st.obj
  refine (bitD_any db gb sb i (x.c i) 108 cs x.d w h.de h.sd ho (hc.ch i h8 hi) (h.st.lt i) h.ne).mono ?_
  rintro e w' ⟨rfl, h1, h2, h3⟩
  rw [bitI_N]
  refine ⟨rfl, ⟨⟨⟨_, h2, hc.put i _ h8⟩, h.st.ok, fun k => ?_⟩, h1, h.ne⟩, h3⟩
  show putC _ _ _ k < _
  unfold putC
  split
  · have := fairN_bd (x.c i)
    exact Nat.lt_of_le_of_lt (learnN_bd (bitX x i) this.1 this.2).2 (by decide)
  · exact h.st.lt k

end Go.Proofs.YtnokemcogjoonaaGreat

namespace Go.Proofs.YtnokemcogjoonaaGreat
open Go.RowKit Go.Shelf
set_option linter.unusedVariables false

theorem walkM_bd (o : Nat) (k : Nat) : ∀ (m A : Nat) (x : Cx), A ≤ m → m < 2 * A → A * 2 ^ k ≤ (walkM o k m x).1 ∧ (walkM o k m x).1 < 2 * (A * 2 ^ k) := by
  induction k with
  | zero => intro m A x h1 h2; simp [walkM, ret]; omega
  | succ k ih =>
    intro m A x h1 h2
    have := ih (2 * m + bN (bitX x (o + m))) (2 * A) (stepX x (o + m)) (by omega) (by have := bN_le (bitX x (o + m)); omega)
    rw [Nat.pow_succ, show A * (2 ^ k * 2) = 2 * A * 2 ^ k from by rw [Nat.mul_comm (2 ^ k) 2, ← Nat.mul_assoc, Nat.mul_comm A 2]]
    exact this

set_option maxHeartbeats 1000000 in
theorem walk_any (sb db gb o len cap k m A E : Nat) (s : Se) (x : Cx) (w : World) (h : Pr w sb db gb s x) (hA : 1 ≤ A) (h1 : A ≤ m) (h2 : m < 2 * A) (hE : E = A * 2 ^ k) (h8 : 8 ≤ o) (ho : o + E ≤ 14143) (hl : E ≤ len) (h48 : len < 2 ^ 48) :
    Calls Tryz.prog 107 #[.slice (some ⟨sb, o, none⟩) len cap, .pointer (some ⟨db, 0, none⟩), .int .i64 (m : Int), .int .i64 (E : Int)] w fun e w' =>
      e = .returned (.int .i64 (((walkM o k m x).1 - E : Nat) : Int)) ∧ E ≤ (walkM o k m x).1 ∧ (walkM o k m x).1 < 2 * E ∧ Pr w' sb db gb s (walkM o k m x).2 ∧ Keep (SD sb db) w w' := by
  have hbd := walkM_bd o k m A x h1 h2
  rw [← hE] at hbd
  have HB := hid hbd
  have HE := hid hE
  have HP := (show Hid (Pr w sb db gb s x ∧ A ≤ m ∧ m < 2 * A) from ⟨h, h1, h2⟩)
  clear h hE h1 h2 hbd
  generalize hR : walkM o k m x = R at *
  have HR := hid hR
  clear hR
  have hEI : (E : Int) ≤ (len : Int) := by omega
  go_enter Tryz.func107, Tryz.ntmps107
  go_wp2_with fail
  go_loopw [2] (fun i wr => ∃ (q : Nat), i = .int .i64 q ∧ q < 2 * E ∧ Hid (∃ (r B : Nat) (y : Cx), 1 ≤ B ∧ B ≤ q ∧ q < 2 * B ∧ E = B * 2 ^ r ∧ walkM o r q y = R ∧ Pr wr sb db gb s y ∧ Keep (SD sb db) w wr)) (fun i _ => 2 * E - (intOf i).toNat)
  case atStart =>
    refine ⟨m, rfl, ?_, (show ∃ (r B : Nat) (y : Cx), _ from ⟨k, A, x, hA, HP.out.2.1, HP.out.2.2, HE.out, HR.out, HP.out.1, Keep.refl _ _⟩)⟩
    have := HP.out.2.2
    have := HE.out
    have : A * 1 ≤ A * 2 ^ k := Nat.mul_le_mul_left _ (Nat.one_le_two_pow)
    omega
  case round =>
    obtain ⟨q, rfl, hq, HQ⟩ := hrel
    by_cases hlt : q < E
    · obtain ⟨r, B, y, b1, b2, b3, b4, b5, b6, b7⟩ := HQ.out
      clear HQ
      obtain ⟨r, rfl⟩ : ∃ r', r = r' + 1 := ⟨r - 1, by
        rcases r with _ | r
        · simp at b4; omega
        · omega⟩
      have hltI : (q : Int) < (E : Int) := by omega
      have hqI : (q : Int) < (len : Int) := by omega
      have HC := hid (bit_any sb db gb (o + q) s y _ b6 (by omega) (by omega))
      have hb := bN_le (bitX y (o + q))
      have HN := (show Hid (E = (2 * B) * 2 ^ r ∧ walkM o r (2 * q + bN (bitX y (o + q))) (stepX y (o + q)) = R ∧ 1 ≤ B ∧ B ≤ q ∧ q < 2 * B ∧ Keep (SD sb db) w wr) from ⟨by rw [b4, Nat.pow_succ, Nat.mul_comm (2 ^ r) 2, ← Nat.mul_assoc, Nat.mul_comm B 2], b5, b1, b2, b3, b7⟩)
      clear b1 b2 b3 b4 b5 b6 b7
      generalize stepX y (o + q) = y' at *
      generalize bN (bitX y (o + q)) = bt at *
      go_wp2_with fail
      refine HC.out.mono ?_
      rintro e w1 ⟨rfl, g1, g2⟩
      have HG := (show Hid (Pr w1 sb db gb s y' ∧ Keep (SD sb db) w w1) from ⟨g1, HN.out.2.2.2.2.2.trans' g2⟩)
      clear g1 g2 HC
      go_wp2_with fail
      go_roundw
      case rel =>
        refine ⟨2 * q + bt, by go_num, ?_, (show ∃ (r B : Nat) (y : Cx), _ from ⟨r, 2 * B, y', by have := HN.out.2.2.1; omega, by have := HN.out.2.2.2.1; omega, by have := HN.out.2.2.2.2.1; omega, HN.out.1, HN.out.2.1, HG.out.1, HG.out.2⟩)⟩
        omega
      case measure => simp [intOf]; have := HN.out.2.2.1; have := HN.out.2.2.2.1; omega
    · have HF := (show Hid (R.1 = q ∧ Pr wr sb db gb s R.2 ∧ Keep (SD sb db) w wr) from by
        obtain ⟨r, B, y, b1, b2, b3, b4, b5, b6, b7⟩ := HQ.out
        have : r = 0 := by
          rcases r with _ | r
          · rfl
          · have : B * 2 ≤ B * 2 ^ (r + 1) := Nat.mul_le_mul_left _ (by rw [Nat.pow_succ]; have := Nat.one_le_two_pow (n := r); omega)
            omega
        subst this
        have e : R = (q, y) := b5.symm
        rw [e]
        exact ⟨rfl, b6, b7⟩)
      clear HQ
      have hltI : ¬ (q : Int) < (E : Int) := by omega
      have hs : (q : Int) - (E : Int) = ((q - E : Nat) : Int) := by omega
      go_wp2_with fail
      go_ret
      rw [HF.out.1]
      refine ⟨?_, by omega, hq, HF.out.2⟩
      go_num

end Go.Proofs.YtnokemcogjoonaaGreat

namespace Go.Proofs.YtnokemcogjoonaaGreat
open Go.RowKit Go.Shelf
set_option linter.unusedVariables false

theorem readM_eq (o n : Nat) (x : Cx) : readM o n x = ((walkM o n 1 x).1 - 2 ^ n, (walkM o n 1 x).2) := rfl
theorem read3 (sb db gb o len cap : Nat) (s : Se) (x : Cx) (w : World) (h : Pr w sb db gb s x) (h8 : 8 ≤ o) (ho : o + 8 ≤ 14143) (hl : 8 ≤ len) (h48 : len < 2 ^ 48) :
    Calls Tryz.prog 95 #[.slice (some ⟨sb, o, none⟩) len cap, .pointer (some ⟨db, 0, none⟩), .int .i64 3] w fun e w' =>
      e = .returned (.int .i64 (((readM o 3 x).1 : Nat) : Int)) ∧ (readM o 3 x).1 < 8 ∧ Pr w' sb db gb s (readM o 3 x).2 ∧ Keep (SD sb db) w w' := by
  have HW := hid (walk_any sb db gb o len cap 3 1 1 8 s x w h (by omega) (by omega) (by omega) (by decide) h8 ho hl h48)
  have HE := readM_eq o 3 x
  rw [show (2 : Nat) ^ 3 = 8 from by decide] at HE
  have HE := hid HE
  clear h
  generalize readM o 3 x = R at *
  generalize walkM o 3 1 x = V at *
  go_enter Tryz.func95, Tryz.ntmps95
  go_wp2_with fail
  refine HW.out.mono ?_
  rintro e w1 ⟨rfl, g1, g2, g3, g4⟩
  go_wp2_with fail
  go_ret
  rw [HE.out]
  exact ⟨rfl, by show V.1 - _ < _; omega, g3, g4⟩
theorem read6 (sb db gb o len cap : Nat) (s : Se) (x : Cx) (w : World) (h : Pr w sb db gb s x) (h8 : 8 ≤ o) (ho : o + 64 ≤ 14143) (hl : 64 ≤ len) (h48 : len < 2 ^ 48) :
    Calls Tryz.prog 95 #[.slice (some ⟨sb, o, none⟩) len cap, .pointer (some ⟨db, 0, none⟩), .int .i64 6] w fun e w' =>
      e = .returned (.int .i64 (((readM o 6 x).1 : Nat) : Int)) ∧ (readM o 6 x).1 < 64 ∧ Pr w' sb db gb s (readM o 6 x).2 ∧ Keep (SD sb db) w w' := by
  have HW := hid (walk_any sb db gb o len cap 6 1 1 64 s x w h (by omega) (by omega) (by omega) (by decide) h8 ho hl h48)
  have HE := readM_eq o 6 x
  rw [show (2 : Nat) ^ 6 = 64 from by decide] at HE
  have HE := hid HE
  clear h
  generalize readM o 6 x = R at *
  generalize walkM o 6 1 x = V at *
  go_enter Tryz.func95, Tryz.ntmps95
  go_wp2_with fail
  refine HW.out.mono ?_
  rintro e w1 ⟨rfl, g1, g2, g3, g4⟩
  go_wp2_with fail
  go_ret
  rw [HE.out]
  exact ⟨rfl, by show V.1 - _ < _; omega, g3, g4⟩
theorem read8 (sb db gb o len cap : Nat) (s : Se) (x : Cx) (w : World) (h : Pr w sb db gb s x) (h8 : 8 ≤ o) (ho : o + 256 ≤ 14143) (hl : 256 ≤ len) (h48 : len < 2 ^ 48) :
    Calls Tryz.prog 95 #[.slice (some ⟨sb, o, none⟩) len cap, .pointer (some ⟨db, 0, none⟩), .int .i64 8] w fun e w' =>
      e = .returned (.int .i64 (((readM o 8 x).1 : Nat) : Int)) ∧ (readM o 8 x).1 < 256 ∧ Pr w' sb db gb s (readM o 8 x).2 ∧ Keep (SD sb db) w w' := by
  have HW := hid (walk_any sb db gb o len cap 8 1 1 256 s x w h (by omega) (by omega) (by omega) (by decide) h8 ho hl h48)
  have HE := readM_eq o 8 x
  rw [show (2 : Nat) ^ 8 = 256 from by decide] at HE
  have HE := hid HE
  clear h
  generalize readM o 8 x = R at *
  generalize walkM o 8 1 x = V at *
  go_enter Tryz.func95, Tryz.ntmps95
  go_wp2_with fail
  refine HW.out.mono ?_
  rintro e w1 ⟨rfl, g1, g2, g3, g4⟩
  go_wp2_with fail
  go_ret
  rw [HE.out]
  exact ⟨rfl, by show V.1 - _ < _; omega, g3, g4⟩

theorem or_more (t b i : Nat) (ht : t < 2 ^ i) (hb : b ≤ 1) (hi : i < 32) : bits .or .u32 (t : Int) ((b : Int) * 2 ^ i % 4294967296) = ((t + b * 2 ^ i : Nat) : Int) := by
  have h1 : 2 ^ i ≤ 2 ^ 31 := Nat.pow_le_pow_right (by decide) (by omega)
  have h2 : b * 2 ^ i ≤ 2 ^ i := by
    have := Nat.mul_le_mul_right (2 ^ i) hb
    omega
  have h3 : (b : Int) * 2 ^ i % 4294967296 = ((b * 2 ^ i : Nat) : Int) := by
    rw [show (b : Int) * 2 ^ i = ((b * 2 ^ i : Nat) : Int) from by simp]
    generalize b * 2 ^ i = z at *
    omega
  rw [h3, u32_or_nat _ _ (by omega) (by omega), Nat.or_comm, nat_join i (b * 2 ^ i) t (Nat.mul_mod_left _ _) ht, Nat.add_comm]

set_option maxHeartbeats 1000000 in
theorem backwards_any (sb db gb o len cap k : Nat) (s : Se) (x : Cx) (w : World) (h : Pr w sb db gb s x) (hk : k ≤ 6) (h8 : 8 ≤ o) (ho : o + 2 ^ k ≤ 14143) (hl : 2 ^ k ≤ len) (h48 : len < 2 ^ 48) :
    Calls Tryz.prog 109 #[.slice (some ⟨sb, o, none⟩) len cap, .pointer (some ⟨db, 0, none⟩), .int .i64 (k : Int)] w fun e w' =>
      e = .returned (.int .u32 (((backM o k 0 1 0 x).1 : Nat) : Int)) ∧ (backM o k 0 1 0 x).1 < 2 ^ k ∧ Pr w' sb db gb s (backM o k 0 1 0 x).2 ∧ Keep (SD sb db) w w' := by
  have hlI : ((2 ^ k : Nat) : Int) ≤ (len : Int) := by omega
  have HP := hid h
  clear h
  generalize hR : backM o k 0 1 0 x = R at *
  have HR := hid hR
  clear hR
  go_enter Tryz.func109, Tryz.ntmps109
  go_wp2_with fail
  go_loopw [12, 7, 8] (fun i m t wr => ∃ (j q u : Nat), i = .int .i64 j ∧ m = .int .i64 q ∧ t = .int .u32 u ∧ j ≤ k ∧ 2 ^ j ≤ q ∧ q < 2 * 2 ^ j ∧ u < 2 ^ j ∧ Hid (∃ y, backM o (k - j) j q u y = R ∧ Pr wr sb db gb s y ∧ Keep (SD sb db) w wr)) (fun i _ _ _ => k - (intOf i).toNat)
  case atStart => exact ⟨0, 1, 0, rfl, rfl, rfl, by omega, by simp, by simp, by simp, (show ∃ y, _ from ⟨x, HR.out, HP.out, Keep.refl _ _⟩)⟩
  case round =>
    obtain ⟨j, q, u, rfl, rfl, rfl, hj, a1, a2, a3, HQ⟩ := hrel
    by_cases hlt : j < k
    · obtain ⟨y, b1, b2, b3⟩ := HQ.out
      clear HQ
      have hltI : (j : Int) < (k : Int) := by omega
      have hp : 2 * 2 ^ j ≤ 2 ^ k := by rw [Nat.mul_comm, ← Nat.pow_succ]; exact Nat.pow_le_pow_right (by decide) (by omega)
      have hqI : (q : Int) < (len : Int) := by omega
      have HC := hid (bit_any sb db gb (o + q) s y _ b2 (by omega) (by omega))
      have hb := bN_le (bitX y (o + q))
      have hor := or_more u (bN (bitX y (o + q))) j a3 hb (by omega)
      have hu : u + bN (bitX y (o + q)) * 2 ^ j < 2 * 2 ^ j := by
        have := Nat.mul_le_mul_right (2 ^ j) hb
        omega
      have HN := (show Hid (backM o (k - (j + 1)) (j + 1) (2 * q + bN (bitX y (o + q))) (u + bN (bitX y (o + q)) * 2 ^ j) (stepX y (o + q)) = R ∧ Keep (SD sb db) w wr) from by
        rw [show k - j = k - (j + 1) + 1 from by omega] at b1
        exact ⟨b1, b3⟩)
      clear b1 b2 b3
      generalize stepX y (o + q) = y' at *
      generalize bN (bitX y (o + q)) = bt at *
      generalize u + bt * 2 ^ j = u' at *
      have hps : 2 ^ (j + 1) = 2 * 2 ^ j := by rw [Nat.pow_succ, Nat.mul_comm]
      go_wp2_with fail
      refine HC.out.mono ?_
      rintro e w1 ⟨rfl, g1, g2⟩
      have HG := (show Hid (Pr w1 sb db gb s y' ∧ Keep (SD sb db) w w1) from ⟨g1, HN.out.2.trans' g2⟩)
      clear g1 g2 HC
      go_wp2_with fail
      go_roundw
      case rel =>
        refine ⟨j + 1, 2 * q + bt, u', by go_num, by go_num, rfl, by omega, by omega, by omega, by omega, (show ∃ y, _ from ⟨y', HN.out.1, HG.out.1, HG.out.2⟩)⟩
      case measure => simp [intOf]; omega
    · obtain ⟨y, b1, b2, b3⟩ := HQ.out
      have hj2 : j = k := by omega
      subst hj2
      rw [Nat.sub_self] at b1
      have e : R = (u, y) := b1.symm
      have HF := (show Hid (R.1 = u ∧ Pr wr sb db gb s R.2 ∧ Keep (SD sb db) w wr) from by rw [e]; exact ⟨rfl, b2, b3⟩)
      clear b1 b2 b3 HQ e
      go_wp2_with fail
      go_ret
      rw [HF.out.1]
      exact ⟨rfl, a3, HF.out.2⟩

theorem and_bit (other k : Nat) (h : other < 256) : bits .and .u8 ((other : Int) / 2 ^ k) 1 = ((other / 2 ^ k % 2 : Nat) : Int) := by
  have e : (other : Int) / 2 ^ k = ((other / 2 ^ k : Nat) : Int) := by simp
  have := Nat.div_le_self other (2 ^ k)
  rw [e]
  generalize other / 2 ^ k = z at *
  have := u8_and_nat z 1 (by omega) (by omega)
  rw [show (((1 : Nat) : Int)) = (1 : Int) from rfl] at this
  rw [this, Nat.and_one_is_mod]

set_option maxHeartbeats 1000000 in
theorem like_any (sb db gb o len cap other : Nat) (s : Se) (x : Cx) (w : World) (h : Pr w sb db gb s x) (hoth : other < 256) (h8 : 8 ≤ o) (ho : o + 768 ≤ 14143) (hl : 768 ≤ len) (h48 : len < 2 ^ 48) :
    Calls Tryz.prog 97 #[.slice (some ⟨sb, o, none⟩) len cap, .pointer (some ⟨db, 0, none⟩), .int .u8 (other : Int)] w fun e w' =>
      e = .returned (.int .u8 (((likeM o other 8 1 x).1 - 256 : Nat) : Int)) ∧ 256 ≤ (likeM o other 8 1 x).1 ∧ (likeM o other 8 1 x).1 < 512 ∧ Pr w' sb db gb s (likeM o other 8 1 x).2 ∧ Keep (SD sb db) w w' := by
  have HP := hid h
  clear h
  generalize hR : likeM o other 8 1 x = R at *
  have HR := hid hR
  clear hR
  go_enter Tryz.func97, Tryz.ntmps97
  go_wp2_with fail
  go_loopw [8, 7] (fun i m wr => ∃ (j : Int) (q : Nat), i = .int .i64 j ∧ m = .int .i64 q ∧ -1 ≤ j ∧ j ≤ 7 ∧ q < 512 ∧ Hid (∃ (A k : Nat) (y : Cx), (k : Int) = j + 1 ∧ A * 2 ^ k = 256 ∧ A ≤ q ∧ q < 2 * A ∧ likeM o other k q y = R ∧ Pr wr sb db gb s y ∧ Keep (SD sb db) w wr)) (fun i _ _ => (intOf i + 1).toNat)
  case atStart => exact ⟨7, 1, rfl, rfl, by omega, by omega, by omega, (show ∃ (A k : Nat) (y : Cx), _ from ⟨1, 8, x, rfl, rfl, by omega, by omega, HR.out, HP.out, Keep.refl _ _⟩)⟩
  case round =>
    obtain ⟨j, q, rfl, rfl, hj1, hj2, hq, HQ⟩ := hrel
    by_cases hlt : 0 ≤ j
    · obtain ⟨A, k, y, b0, b1, b2, b3, b4, b5, b6⟩ := HQ.out
      clear HQ
      obtain ⟨k, rfl⟩ : ∃ k', k = k' + 1 := ⟨k - 1, by omega⟩
      obtain rfl : j = (k : Int) := by omega
      obtain ⟨l, hl2⟩ : ∃ l : Nat, l = other / 2 ^ k % 2 := ⟨_, rfl⟩
      have hl3 : l ≤ 1 := by omega
      have hand := and_bit other k hoth
      rw [← hl2] at hand
      obtain ⟨t, ht⟩ : ∃ t : Nat, t = (1 + l) * 256 + q := ⟨_, rfl⟩
      have htI : (1 + (l : Int)) * 256 + (q : Int) = (t : Int) := by omega
      have hqq : q < 256 := by
        have : 2 * A ≤ 256 := by rw [← b1, Nat.pow_succ, Nat.mul_comm (2 ^ k) 2, ← Nat.mul_assoc, Nat.mul_comm A 2]; exact Nat.le_mul_of_pos_right _ (Nat.two_pow_pos k)
        omega
      have htl : (t : Int) < (len : Int) := by omega
      have HC := hid (bit_any sb db gb (o + t) s y _ b5 (by omega) (by omega))
      have hb := bN_le (bitX y (o + t))
      have HN := (show Hid ((if bN (bitX y (o + t)) = l then likeM o other k (2 * q + bN (bitX y (o + t))) (stepX y (o + t)) else walkM o k (2 * q + bN (bitX y (o + t))) (stepX y (o + t))) = R ∧ (2 * A) * 2 ^ k = 256 ∧ A ≤ q ∧ q < 2 * A ∧ Keep (SD sb db) w wr) from by
        refine ⟨?_, by rw [← b1, Nat.pow_succ, Nat.mul_comm (2 ^ k) 2, ← Nat.mul_assoc, Nat.mul_comm A 2], b2, b3, b6⟩
        rw [← b4, ht, hl2]
        show _ = (bnd (bitM _) _) y
        unfold bnd bitM
        dsimp only
        split <;> rfl)
      clear b1 b2 b3 b4 b5 b6 ht hl2
      generalize stepX y (o + t) = y' at *
      generalize bN (bitX y (o + t)) = bt at *
      go_wp2_with fail
      refine HC.out.mono ?_
      rintro e w1 ⟨rfl, g1, g2⟩
      have HG := (show Hid (Pr w1 sb db gb s y' ∧ Keep (SD sb db) w w1) from ⟨g1, HN.out.2.2.2.2.trans' g2⟩)
      clear g1 g2 HC
      obtain ⟨q', hq'⟩ : ∃ q' : Nat, q' = 2 * q + bt := ⟨_, rfl⟩
      have hqI : 2 * (q : Int) + (bt : Int) = (q' : Int) := by omega
      rw [← hq'] at HN
      have HQ' := hid hq'
      clear hq'
      by_cases hbl : bt = l
      · have hbl2 : ((bt : Int) != (l : Int)) = false := by simp [hbl]
        rw [if_pos hbl] at HN
        clear hbl
        go_wp2_with fail
        go_roundw
        case rel =>
          refine ⟨(k : Int) - 1, q', by go_num, rfl, by omega, by omega, by have := HQ'.out; omega, (show ∃ (A k : Nat) (y : Cx), _ from ⟨2 * A, k, y', by omega, HN.out.2.1, by have := HN.out.2.2.1; have := HQ'.out; omega, by have := HN.out.2.2.2.1; have := HQ'.out; omega, HN.out.1, HG.out.1, HG.out.2⟩)⟩
        case measure => simp [intOf]
      · have hbl2 : ((bt : Int) != (l : Int)) = true := by simp; omega
        rw [if_neg hbl] at HN
        have HW := hid (walk_any sb db gb o len cap k q' (2 * A) 256 s y' w1 HG.out.1 (by have := HN.out.2.2.1; have := HN.out.2.2.2.1; omega) (by have := HN.out.2.2.1; have := HQ'.out; omega) (by have := HN.out.2.2.2.1; have := HQ'.out; omega) HN.out.2.1.symm h8 (by omega) (by omega) h48)
        rw [HN.out.1] at HW
        clear hbl
        go_wp2_with fail
        refine HW.out.mono ?_
        rintro e w2 ⟨rfl, g1, g2, g3, g4⟩
        have HH := (show Hid (256 ≤ R.1 ∧ R.1 < 512 ∧ Pr w2 sb db gb s R.2 ∧ Keep (SD sb db) w w2) from ⟨g1, g2, g3, HG.out.2.trans' g4⟩)
        obtain ⟨z, hz⟩ : ∃ z, z = R.1 - 256 := ⟨_, rfl⟩
        have hr : (z : Int) % 256 = (z : Int) := by omega
        rw [← hz]
        have HZ := hid hz
        clear hz
        clear g1 g2 g3 g4 HW HG
        go_wp2_with fail
        go_ret
        rw [← HZ.out]
        exact ⟨rfl, HH.out⟩
    · obtain ⟨A, k, y, b0, b1, b2, b3, b4, b5, b6⟩ := HQ.out
      clear HQ
      obtain rfl : j = -1 := by omega
      obtain rfl : k = 0 := by omega
      rw [Nat.pow_zero, Nat.mul_one] at b1
      subst b1
      have e : R = (q, y) := b4.symm
      have HW := hid (walk_any sb db gb o len cap 0 q 256 256 s y _ b5 (by omega) b2 b3 rfl h8 (by omega) (by omega) h48)
      rw [show walkM o 0 q y = R from b4] at HW
      have HK := hid b6
      clear b2 b3 b4 b5 b6 e b0
      go_wp2_with fail
      refine HW.out.mono ?_
      rintro e w2 ⟨rfl, g1, g2, g3, g4⟩
      have HH := (show Hid (256 ≤ R.1 ∧ R.1 < 512 ∧ Pr w2 sb db gb s R.2 ∧ Keep (SD sb db) w w2) from ⟨g1, g2, g3, HK.out.trans' g4⟩)
      obtain ⟨z, hz⟩ : ∃ z, z = R.1 - 256 := ⟨_, rfl⟩
      have hr : (z : Int) % 256 = (z : Int) := by omega
      rw [← hz]
      have HZ := hid hz
      clear hz
      clear g1 g2 g3 g4 HW HK
      go_wp2_with fail
      go_ret
      rw [← HZ.out]
      exact ⟨rfl, HH.out⟩

end Go.Proofs.YtnokemcogjoonaaGreat

namespace Go.Proofs.YtnokemcogjoonaaGreat
open Go.RowKit Go.Shelf
set_option linter.unusedVariables false

theorem lenM_eq (L p : Nat) (x : Cx) : lenM L p x = if bN (bitX x L) = 0 then (2 + (readM (L + 2 + p * 8) 3 (stepX x L)).1, (readM (L + 2 + p * 8) 3 (stepX x L)).2) else
    if bN (bitX (stepX x L) (L + 1)) = 0 then (10 + (readM (L + 130 + p * 8) 3 (stepX (stepX x L) (L + 1))).1, (readM (L + 130 + p * 8) 3 (stepX (stepX x L) (L + 1))).2)
    else (18 + (readM (L + 258) 8 (stepX (stepX x L) (L + 1))).1, (readM (L + 258) 8 (stepX (stepX x L) (L + 1))).2) := by
  by_cases h1 : bN (bitX x L) = 0
  · rw [if_pos h1]
    exact bnd_z _ _ _ _ h1
  · rw [if_neg h1]
    by_cases h2 : bN (bitX (stepX x L) (L + 1)) = 0
    · rw [if_pos h2]
      exact (bnd_nz _ _ _ _ h1).trans (bnd_z _ _ _ _ h2)
    · rw [if_neg h2]
      exact (bnd_nz _ _ _ _ h1).trans (bnd_nz _ _ _ _ h2)

set_option maxHeartbeats 1000000 in
theorem length_any (sb db gb L p : Nat) (s : Se) (x : Cx) (w : World) (h : Pr w sb db gb s x) (h8 : 8 ≤ L) (hL : L + 514 ≤ 14143) (hp : p < 16) :
    Calls Tryz.prog 98 #[.pointer (some ⟨sb, L, none⟩), .pointer (some ⟨db, 0, none⟩), .int .i64 (p : Int)] w fun e w' =>
      e = .returned (.int .i64 (((lenM L p x).1 : Nat) : Int)) ∧ 2 ≤ (lenM L p x).1 ∧ (lenM L p x).1 ≤ 273 ∧ Pr w' sb db gb s (lenM L p x).2 ∧ Keep (SD sb db) w w' := by
  have HE := hid (lenM_eq L p x)
  have H1 := hid (bit_any sb db gb L s x w h h8 (by omega))
  have H2 := hid (fun W H => bit_any sb db gb (L + 1) s (stepX x L) W H (by omega) (by omega))
  have H3 := hid (fun W H => read3 sb db gb (L + 2 + p * 8) 8 8 s (stepX x L) W H (by omega) (by omega) (by omega) (by decide))
  have H4 := hid (fun W H => read3 sb db gb (L + 130 + p * 8) 8 8 s (stepX (stepX x L) (L + 1)) W H (by omega) (by omega) (by omega) (by decide))
  have H5 := hid (fun W H => read8 sb db gb (L + 258) 256 256 s (stepX (stepX x L) (L + 1)) W H (by omega) (by omega) (by omega) (by decide))
  clear h
  generalize lenM L p x = R at *
  generalize stepX (stepX x L) (L + 1) = y2 at *
  generalize hy1 : stepX x L = y1 at *
  clear hy1
  generalize bitX x L = t1 at *
  generalize bitX y1 (L + 1) = t2 at *
  generalize readM (L + 2 + p * 8) 3 y1 = V1 at *
  generalize readM (L + 130 + p * 8) 3 y2 = V2 at *
  generalize readM (L + 258) 8 y2 = V3 at *
  have hpI : (p : Int) < 16 := by omega
  go_enter Tryz.func98, Tryz.ntmps98
  go_wp2_with fail
  refine H1.out.mono ?_
  rintro e w1 ⟨rfl, g1, g2⟩
  have HG := (show Hid (Pr w1 sb db gb s y1 ∧ Keep (SD sb db) w w1) from ⟨g1, g2⟩)
  clear g1 g2 H1
  cases t1 with
  | false =>
    rw [show bN false = 0 from rfl] at HE ⊢
    rw [if_pos rfl] at HE
    rw [show (((0 : Nat) : Int)) = (0 : Int) from rfl]
    go_wp2_with fail
    refine (H3.out _ HG.out.1).mono ?_
    rintro e w2 ⟨rfl, g1, g2, g3⟩
    have HH := (show Hid (R.1 = 2 + V1.1 ∧ Pr w2 sb db gb s R.2 ∧ Keep (SD sb db) w w2) from by rw [HE.out]; exact ⟨rfl, g2, HG.out.2.trans' g3⟩)
    clear g2 g3 HE HG H2 H3 H4 H5
    generalize V1.1 = z at *
    go_wp2_with fail
    go_ret
    rw [HH.out.1]
    refine ⟨?_, by omega, by omega, HH.out.2⟩
    go_num
  | true =>
    rw [show bN true = 1 from rfl] at HE ⊢
    rw [if_neg (by decide)] at HE
    rw [show (((1 : Nat) : Int)) = (1 : Int) from rfl]
    go_wp2_with fail
    refine (H2.out _ HG.out.1).mono ?_
    rintro e w2 ⟨rfl, g1, g2⟩
    have HG2 := (show Hid (Pr w2 sb db gb s y2 ∧ Keep (SD sb db) w w2) from ⟨g1, HG.out.2.trans' g2⟩)
    clear g1 g2 HG H2
    cases t2 with
    | false =>
      rw [show bN false = 0 from rfl] at HE ⊢
      rw [if_pos rfl] at HE
      rw [show (((0 : Nat) : Int)) = (0 : Int) from rfl]
      go_wp2_with fail
      refine (H4.out _ HG2.out.1).mono ?_
      rintro e w3 ⟨rfl, g1, g2, g3⟩
      have HH := (show Hid (R.1 = 10 + V2.1 ∧ Pr w3 sb db gb s R.2 ∧ Keep (SD sb db) w w3) from by rw [HE.out]; exact ⟨rfl, g2, HG2.out.2.trans' g3⟩)
      clear g2 g3 HE HG2 H3 H4 H5
      generalize V2.1 = z at *
      go_wp2_with fail
      go_ret
      rw [HH.out.1]
      refine ⟨?_, by omega, by omega, HH.out.2⟩
      go_num
    | true =>
      rw [show bN true = 1 from rfl] at HE ⊢
      rw [if_neg (by decide)] at HE
      rw [show (((1 : Nat) : Int)) = (1 : Int) from rfl]
      go_wp2_with fail
      refine (H5.out _ HG2.out.1).mono ?_
      rintro e w3 ⟨rfl, g1, g2, g3⟩
      have HH := (show Hid (R.1 = 18 + V3.1 ∧ Pr w3 sb db gb s R.2 ∧ Keep (SD sb db) w w3) from by rw [HE.out]; exact ⟨rfl, g2, HG2.out.2.trans' g3⟩)
      clear g2 g3 HE HG2 H3 H4 H5
      generalize V3.1 = z at *
      go_wp2_with fail
      go_ret
      rw [HH.out.1]
      refine ⟨?_, by omega, by omega, HH.out.2⟩
      go_num

theorem distM_eq (len : Nat) (x : Cx) (s : Nat) (y : Cx) (h : readM (13756 + (min len 5 - 2) * 64) 6 x = (s, y)) : distM len x = if s < 4 then (s, y) else
    if s < 14 then ((2 + s % 2) * 2 ^ (s / 2 - 1) + (backM (14012 + ((2 + s % 2) * 2 ^ (s / 2 - 1) - s)) (s / 2 - 1) 0 1 0 y).1, (backM (14012 + ((2 + s % 2) * 2 ^ (s / 2 - 1) - s)) (s / 2 - 1) 0 1 0 y).2)
    else ((2 + s % 2) * 2 ^ (s / 2 - 1) + (dirD (s / 2 - 1 - 4) y.d 0).2 * 16 + (backM 14127 4 0 1 0 ⟨y.c, (dirD (s / 2 - 1 - 4) y.d 0).1⟩).1, (backM 14127 4 0 1 0 ⟨y.c, (dirD (s / 2 - 1 - 4) y.d 0).1⟩).2) := by
  by_cases h1 : s < 4
  · simp only [distM, bnd, ret, h, h1, if_true]
  · by_cases h2 : s < 14
    · simp only [distM, bnd, ret, h, h1, h2, if_true, if_false]
    · simp only [distM, bnd, ret, dirM, h, h1, h2, if_false]

/-- The sizes of slots, by looking at each. -/
theorem slot_bd (s : Nat) (h4 : ¬ s < 4) (h : s < 64) : s / 2 - 1 ≤ 30 ∧ 1 ≤ s / 2 - 1 ∧ (2 + s % 2) * 2 ^ (s / 2 - 1) + 2 ^ (s / 2 - 1) ≤ 4294967296 ∧
    (s < 14 → s ≤ (2 + s % 2) * 2 ^ (s / 2 - 1) ∧ (2 + s % 2) * 2 ^ (s / 2 - 1) - s + 2 ^ (s / 2 - 1) ≤ 115 ∧ s / 2 - 1 ≤ 5) ∧ (¬ s < 14 → 6 ≤ s / 2 - 1) := by
  have : ∀ s : Fin 64, ¬ s.val < 4 → s.val / 2 - 1 ≤ 30 ∧ 1 ≤ s.val / 2 - 1 ∧ (2 + s.val % 2) * 2 ^ (s.val / 2 - 1) + 2 ^ (s.val / 2 - 1) ≤ 4294967296 ∧
    (s.val < 14 → s.val ≤ (2 + s.val % 2) * 2 ^ (s.val / 2 - 1) ∧ (2 + s.val % 2) * 2 ^ (s.val / 2 - 1) - s.val + 2 ^ (s.val / 2 - 1) ≤ 115 ∧ s.val / 2 - 1 ≤ 5) ∧ (¬ s.val < 14 → 6 ≤ s.val / 2 - 1) := by decide
  exact this ⟨s, h⟩ h4

theorem wraps_i64 (n : Int) (h₀ : 0 ≤ n) (h₁ : n < 2 ^ 63) : IntKind.i64.wrap n = n := by rw [IntKind.wrap_i64]; omega
section
attribute [local go_sem] minSem_eq
set_option maxHeartbeats 1000000 in
theorem distance_any (sb db gb len : Nat) (s : Se) (x : Cx) (w : World) (h : Pr w sb db gb s x) (h2 : 2 ≤ len) (h3 : len ≤ 273) :
    Calls Tryz.prog 100 #[.pointer (some ⟨sb, 13756, none⟩), .pointer (some ⟨db, 0, none⟩), .int .i64 (len : Int)] w fun e w' =>
      e = .returned (.int .u32 (((distM len x).1 : Nat) : Int)) ∧ (distM len x).1 < 4294967296 ∧ Pr w' sb db gb s (distM len x).2 ∧ Keep (SD sb db) w w' := by
  obtain ⟨m, hm⟩ : ∃ m : Nat, m = min len 5 := ⟨_, rfl⟩
  obtain ⟨q, hq⟩ : ∃ q : Nat, q = min len 5 - 2 := ⟨_, rfl⟩
  have hmin := minSem_run .i64 #[3, 3] 3 (len : Int) 5 (m : Int) (by omega)
  have hqI : (m : Int) - 2 = (q : Int) := by omega
  have hq4 : q < 4 := by omega
  have hq4I : (q : Int) < 4 := by omega
  have HE := hid (distM_eq len x)
  rw [← hq] at HE
  have H1 := hid (read6 sb db gb (13756 + q * 64) 64 64 s x w h (by omega) (by omega) (by omega) (by decide))
  clear h hm hq
  generalize readM (13756 + q * 64) 6 x = V at *
  obtain ⟨sl, y⟩ := V
  have HE := hid (HE.out sl y rfl)
  generalize distM len x = R at *
  go_enter Tryz.func100, Tryz.ntmps100
  go_wp2_with fail
  refine H1.out.mono ?_
  rintro e w1 ⟨rfl, g1, g2, g3⟩
  have HG := (show Hid (Pr w1 sb db gb s y ∧ Keep (SD sb db) w w1) from ⟨g2, g3⟩)
  clear g2 g3 H1
  by_cases h4 : sl < 4
  · have h4I : (sl : Int) < 4 := by omega
    rw [if_pos h4] at HE
    have HR := hid HE.out
    clear HE
    have hsl : (sl : Int) % 4294967296 = (sl : Int) := by omega
    go_wp2_with fail
    go_ret
    rw [HR.out]
    exact ⟨rfl, by show sl < _; omega, HG.out⟩
  · rw [if_neg h4] at HE
    have h4I : ¬ (sl : Int) < 4 := by omega
    obtain ⟨k1, k2, k3, k4, k5⟩ := slot_bd sl h4 g1
    obtain ⟨k, hk⟩ : ∃ k : Nat, k = sl / 2 - 1 := ⟨_, rfl⟩
    obtain ⟨hf, hhf⟩ : ∃ hf : Nat, hf = sl / 2 := ⟨_, rfl⟩
    obtain ⟨l, hl⟩ : ∃ l : Nat, l = sl % 2 := ⟨_, rfl⟩
    obtain ⟨l2, hl2⟩ : ∃ l2 : Nat, l2 = 2 + l := ⟨_, rfl⟩
    obtain ⟨base, hbase⟩ : ∃ base : Nat, base = l2 * 2 ^ k := ⟨_, rfl⟩
    rw [← hk, ← hl, ← hl2, ← hbase] at HE k3 k4
    rw [← hk] at k1 k2 k5
    have i1 : (sl : Int) / 2 = (hf : Int) := by omega
    have i2 : (hf : Int) - 1 = (k : Int) := by omega
    have i3 : bits .and .i64 (sl : Int) 1 = (l : Int) := (bits_mask .i64 63 (by decide) wraps_i64 1 (by decide) (sl : Int) (by omega) (by omega)).trans (by omega)
    have i4 : 2 + (l : Int) = (l2 : Int) := by omega
    have i5 : (l2 : Int) % 4294967296 = (l2 : Int) := by omega
    have i6 : (l2 : Int) * 2 ^ k = (base : Int) := by
      rw [show (l2 : Int) * 2 ^ k = ((l2 * 2 ^ k : Nat) : Int) from by simp, ← hbase]
    have hbl : base < 4294967296 := by
      have := Nat.two_pow_pos k
      omega
    clear hk hhf hl hl2 hbase
    by_cases h14 : sl < 14
    · have h14I : (sl : Int) < 14 := by omega
      rw [if_pos h14] at HE
      obtain ⟨k4, k6, k7⟩ := k4 h14
      obtain ⟨t, ht⟩ : ∃ t : Nat, t = base - sl := ⟨_, rfl⟩
      have i7 : (base : Int) - (sl : Int) = (t : Int) := by omega
      have hp := Nat.two_pow_pos k
      have i8 : t + 2 ^ k ≤ 115 := by rw [ht]; exact k6
      have i9 : (t : Int) ≤ 115 := by generalize 2 ^ k = P at *; omega
      have HT := hid ht
      clear ht
      have HB := hid (backwards_any sb db gb (14012 + t) (115 - t) (115 - t) k s y w1 HG.out.1 (by omega) (by omega) (by generalize 2 ^ k = P at *; omega) (by generalize 2 ^ k = P at *; omega) (by omega))
      have HE2 := HE.out
      rw [← HT.out] at HE2
      have HE2 := hid HE2
      clear HE
      generalize backM (14012 + t) k 0 1 0 y = V at *
      go_wp2_with fail
      refine HB.out.mono ?_
      rintro e w2 ⟨rfl, g1, g2, g3⟩
      have HH := (show Hid (R.1 = base + V.1 ∧ Pr w2 sb db gb s R.2 ∧ Keep (SD sb db) w w2) from by rw [HE2.out]; exact ⟨rfl, g2, HG.out.2.trans' g3⟩)
      have i10 : base + V.1 < 4294967296 := by generalize 2 ^ k = P at *; omega
      clear g1 g2 g3 HE2 HG HB
      generalize V.1 = z at *
      go_wp2_with fail
      go_ret
      rw [HH.out.1]
      refine ⟨?_, i10, HH.out.2⟩
      go_num
    · have h14I : ¬ (sl : Int) < 14 := by omega
      rw [if_neg h14] at HE
      have k6 := k5 h14
      clear k4 k5
      have HD := hid (direct_any db gb ((k : Int) - 4) y.d w1 HG.out.1.de)
      rw [show bitsN ((k : Int) - 4) = k - 4 from by unfold bitsN; omega] at HD
      have hlt := dirD_lt (k - 4) y.d 0 0 (by decide)
      rw [Nat.zero_add] at hlt
      have hpp : 2 ^ k = 2 ^ (k - 4) * 16 := by rw [show (16 : Nat) = 2 ^ 4 from rfl, ← Nat.pow_add]; congr 1; omega
      generalize dirD (k - 4) y.d 0 = V at *
      obtain ⟨d2, hi⟩ := V
      dsimp only at HD HE hlt
      obtain ⟨h16, hh⟩ : ∃ h16 : Nat, h16 = hi * 16 := ⟨_, rfl⟩
      have j1 : (hi : Int) * 16 = (h16 : Int) := by omega
      rw [← hh] at HE
      have j2 : base + h16 + 16 ≤ 4294967296 := by generalize 2 ^ (k - 4) = P at *; omega
      obtain ⟨bh, hbh⟩ : ∃ bh : Nat, bh = base + h16 := ⟨_, rfl⟩
      have j3 : (base : Int) + (h16 : Int) = (bh : Int) := by omega
      have j4 : bh + 16 ≤ 4294967296 := by omega
      rw [← hbh] at HE
      have hp := Nat.two_pow_pos (k - 4)
      have j5 : h16 < 4294967296 := by omega
      have j6 : hi < 4294967296 := by omega
      clear hh hbh hlt hpp hp k3
      go_wp2_with fail
      refine HD.out.mono ?_
      rintro e w2 ⟨rfl, g1, g2⟩
      have hP2 : Pr w2 sb db gb s ⟨y.c, d2⟩ := ⟨HG.out.1.st.keep g2 (fun e => HG.out.1.sd e), g1, HG.out.1.ne⟩
      have HB := hid (backwards_any sb db gb 14127 16 16 4 s ⟨y.c, d2⟩ w2 hP2 (by omega) (by omega) (by decide) (by decide) (by decide))
      have HK := (show Hid (Keep (SD sb db) w w2) from HG.out.2.trans' (g2.mono (fun _ _ e => .inl e)))
      clear g1 g2 hP2 HD HG
      generalize backM 14127 4 0 1 0 ⟨y.c, d2⟩ = V at *
      rw [show (2 : Nat) ^ 4 = 16 from rfl] at HB
      rw [show (((4 : Nat) : Int)) = (4 : Int) from rfl] at HB
      go_wp2_with fail
      refine HB.out.mono ?_
      rintro e w3 ⟨rfl, g1, g2, g3⟩
      have HH := (show Hid (R.1 = bh + V.1 ∧ Pr w3 sb db gb s R.2 ∧ Keep (SD sb db) w w3) from by rw [HE.out]; exact ⟨rfl, g2, HK.out.trans' g3⟩)
      have i10 : bh + V.1 < 4294967296 := by omega
      clear g1 g2 g3 HE HK HB
      generalize V.1 = z at *
      go_wp2_with fail
      go_ret
      rw [HH.out.1]
      refine ⟨?_, i10, HH.out.2⟩
      go_num
end

end Go.Proofs.YtnokemcogjoonaaGreat
