/-
  Slices of bytes: cut, copied, appended, made.
  The number of a stretch of bytes, carried on from place to place, as plain numbers.
  How many bits a number has (math/bits.Len), and a number brought into bounds.
  alike and dear; a middle piece of a slice of bytes.
  A state as it lies, with a decoder; a bit by one of its chances.
  Trees: a walk, a number, a number backwards, a byte that is like another one.
-/
import Derived.Laws.CopyRow
import Derived.Laws.IdiomCopy
import Derived.Deep.OwnRows
import Derived.Test.YtnokemcogjoonaaGreatDoorPutP3
namespace Go.Proofs.YtnokemcogjoonaaGreatDoor.Fd
open Go.RowKit Go.Shelf
set_option linter.unusedVariables false

theorem info5 : (Tryz.prog.info? 5).map (fun i => (i.zero, i.size, i.bytes)) = some (some (.int .u8 0), 1, 1) := by kernel_rfl
theorem size5 : (Tryz.prog.info? 5).map (·.size) = some 1 := by kernel_rfl

/-- Bytes as values. -/
def u8s (bs : List Nat) : List Value := bs.map (fun b => Value.int .u8 ((b : Nat) : Int))
theorem u8s_length (bs : List Nat) : (u8s bs).length = bs.length := by simp [u8s]
theorem u8s_one (bs : List Nat) : ∀ u ∈ u8s bs, u.oneCell' = true := by
  intro u hu
  simp only [u8s, List.mem_map] at hu
  obtain ⟨b, _, rfl⟩ := hu
  rfl
theorem u8s_at (bs : List Nat) (j : Nat) (hj : j < bs.length) : (u8s bs)[j]? = some (.int .u8 ((bs[j]?.getD 0 : Nat) : Int)) := by
  simp [u8s, hj]
theorem u8s_app (a b : List Nat) : u8s (a ++ b) = u8s a ++ u8s b := by simp [u8s]
theorem u8s_take (a : List Nat) (k : Nat) : (u8s a).take k = u8s (a.take k) := by simp [u8s, List.map_take]
theorem u8s_drop (a : List Nat) (k : Nat) : (u8s a).drop k = u8s (a.drop k) := by simp [u8s, List.map_drop]
theorem u8s_inj {a b : List Nat} (h : u8s a = u8s b) : a = b := by
  unfold u8s at h
  refine List.map_inj_right ?_ |>.1 h
  intro x y e
  simp only [Value.int.injEq, true_and] at e
  omega
theorem add0 (g j : Nat) : (⟨g, 0, none⟩ : Addr).add j = ⟨g, j, none⟩ := by unfold Addr.add; split <;> simp_all
theorem addO (g o j : Nat) : (⟨g, o, none⟩ : Addr).add j = ⟨g, o + j, none⟩ := by unfold Addr.add; split <;> simp_all
theorem keep_setRow {S : Nat → Prop} {a w : World} (h : Keep S a w) (g : Nat) (hg : g < a.heap.size → S g) (cs : Array Value) : Keep S a (w.setRow g cs) :=
  h.trans (T := fun k => k = g) ⟨rfl, rfl, rfl, by simp [World.setRow], fun k _ hk => setRow_other w g k cs hk⟩ (fun i hi e => by subst e; exact hg hi)

/-- The slice reads as the bytes bs. -/
structure Bytes (w : World) (a : Option Addr) (cap gb off : Nat) (bs : List Nat) : Prop where
  at_ : a = some ⟨gb, off, none⟩ ∨ bs = []
  nil : a = none → cap = 0
  cells : ∀ j, j < bs.length → w.cell? ⟨gb, off + j, none⟩ = some (.int .u8 ((bs[j]?.getD 0 : Nat) : Int))
  lt : ∀ j : Nat, bs[j]?.getD 0 < 256
  cap : bs.length ≤ cap
  len : bs.length < 2 ^ 48
theorem Bytes.block {w : World} {a : Option Addr} {cap gb off : Nat} {bs : List Nat} (h : Bytes w a cap gb off bs) (hb : bs ≠ []) : gb < w.heap.size :=
  World.block_lt_of_cell? w ⟨gb, off + 0, none⟩ (h.cells 0 (List.length_pos_iff.2 hb))
theorem Bytes.keep {w w' : World} {S : Nat → Prop} {a : Option Addr} {cap gb off : Nat} {bs : List Nat} (h : Bytes w a cap gb off bs) (hk : Keep S w w') (hS : bs ≠ [] → ¬ S gb) : Bytes w' a cap gb off bs :=
  ⟨h.at_, h.nil, fun j hj => by
    have hne : bs ≠ [] := by rintro rfl; simp at hj
    exact (World.cell?_of_block (hk.block gb (h.block hne) (hS hne))).trans (h.cells j hj), h.lt, h.cap, h.len⟩
/-- What append and copy read. -/
def SrcB (w : World) (v : Value) (bs : List Nat) : Prop := (v = .slice none 0 0 ∧ bs = []) ∨ ∃ a cap, v = .slice (some a) bs.length cap ∧ ∀ j u, (u8s bs)[j]? = some u → w.cell? (a.add j) = some u
theorem Bytes.src {w : World} {a : Option Addr} {cap gb off : Nat} {bs : List Nat} (h : Bytes w a cap gb off bs) : SrcB w (.slice a bs.length cap) bs := by
  cases a with
  | none =>
    have h1 := h.nil rfl
    have h2 := h.cap
    have : bs = [] := List.length_eq_zero_iff.1 (by omega)
    subst this
    exact .inl ⟨by rw [h1]; rfl, rfl⟩
  | some ad =>
    refine .inr ⟨ad, cap, rfl, fun j u hu => ?_⟩
    have hj : j < bs.length := by rw [← u8s_length]; exact (List.getElem?_eq_some_iff.1 hu).1
    rcases h.at_ with e | e
    · cases e
      rw [addO, h.cells j hj, ← u8s_at bs j hj, hu]
    · subst e; simp at hj

/-- The slice operation by a name of one's own. -/
def sliceSem (t : TypeId) (x : Value) (lo hi mx : Option Value) : Sem Value := Instr.slice t x lo hi mx
theorem sliceSem_eq (t : TypeId) (x : Value) (lo hi mx : Option Value) : Instr.slice t x lo hi mx = sliceSem t x lo hi mx := rfl

theorem run_low (a : Option Addr) (len cap k : Nat) (h1 : k ≤ len) (w : World) :
    (sliceSem 22 (.slice a len cap) (some (.int .i64 (k : Int))) none none).run Tryz.prog w = .ok (.slice (if cap = k then a else a.map (fun x => x.add k)) (len - k) (cap - k)) w := by
  obtain ⟨i0, hi, hz0, hz1, hz2⟩ := info_parts info5
  simp [sliceSem, Instr.slice, run_underlying Tryz.underlying22, Instr.sliceBounds, Instr.sliceBound, asIntOf, h1, sizeOf, typeInfo, hi, hz1]
theorem run_high (a : Option Addr) (len cap k : Nat) (h1 : k ≤ cap) (w : World) :
    (sliceSem 22 (.slice a len cap) none (some (.int .i64 (k : Int))) none).run Tryz.prog w = .ok (.slice a k cap) w := by
  obtain ⟨i0, hi, hz0, hz1, hz2⟩ := info_parts info5
  have e : (if cap = 0 then a else a.map (fun x => x.add 0)) = a := by
    split
    · rfl
    · cases a <;> simp [Addr.add]
  simp [sliceSem, Instr.slice, run_underlying Tryz.underlying22, Instr.sliceBounds, Instr.sliceBound, asIntOf, h1, sizeOf, typeInfo, hi, e]

theorem Bytes.drop {w : World} {a : Option Addr} {cap gb off : Nat} {bs : List Nat} (h : Bytes w a cap gb off bs) (k : Nat) (hk : k ≤ bs.length) :
    ∃ a' off', (∀ W, (sliceSem 22 (.slice a bs.length cap) (some (.int .i64 (k : Int))) none none).run Tryz.prog W = .ok (.slice a' (bs.drop k).length (cap - k)) W) ∧ Bytes w a' (cap - k) gb off' (bs.drop k) ∧ (bs.drop k ≠ [] → off' = off + k) := by
  have hc := h.cap
  have hl := h.len
  refine ⟨if cap = k then a else a.map (fun x => x.add k), if cap = k then off else off + k, fun W => by rw [run_low a bs.length cap k hk W, List.length_drop], ⟨?_, ?_, ?_, lt_drop h.lt k, by rw [List.length_drop]; omega, by rw [List.length_drop]; omega⟩, ?_⟩
  · rcases h.at_ with e | e
    · left
      subst e
      split
      · rfl
      · simp [addO]
    · right; rw [e]; simp
  · intro e
    split at e
    · have := h.nil e; omega
    · rw [Option.map_eq_none_iff] at e
      have := h.nil e; omega
  · intro j hj
    rw [List.length_drop] at hj
    have := h.cells (k + j) (by omega)
    rw [List.getElem?_drop, if_neg (by omega), Nat.add_assoc]
    exact this
  · intro hne
    have : 0 < (bs.drop k).length := List.length_pos_iff.2 hne
    rw [List.length_drop] at this
    rw [if_neg (by omega)]
theorem Bytes.take {w : World} {a : Option Addr} {cap gb off : Nat} {bs : List Nat} (h : Bytes w a cap gb off bs) (k : Nat) (hk : k ≤ bs.length) :
    (∀ W, (sliceSem 22 (.slice a bs.length cap) none (some (.int .i64 (k : Int))) none).run Tryz.prog W = .ok (.slice a (bs.take k).length cap) W) ∧ Bytes w a cap gb off (bs.take k) := by
  have hc := h.cap
  have hl := h.len
  have e : (bs.take k).length = k := by rw [List.length_take]; omega
  refine ⟨fun W => by rw [run_high a bs.length cap k (by omega) W, e], ⟨?_, h.nil, ?_, lt_take h.lt k, by omega, by omega⟩⟩
  · rcases h.at_ with e | e
    · exact .inl e
    · right; rw [e]; simp
  · intro j hj
    rw [e] at hj
    rw [List.getElem?_take, if_pos hj]
    exact h.cells j (by omega)

/-- copy into a row, from o on. -/
theorem run_copy_any (w : World) (ty : TypeId) (g o dl dc : Nat) (da : Option Addr) (v : Value) (bs : List Nat) (cur : Array Value) (t : Nat) (hv : SrcB w v bs) (ht : t = min bs.length dl)
    (hda : da = some ⟨g, o, none⟩ ∨ t = 0) (hg : w.heap[g]? = some (.cells cur 5 (0, 0))) (hfit : o + t ≤ cur.size) :
    (Builtin.copy_ #[22, 22] ty #[.slice da dl dc, v]).run Tryz.prog w = .ok (.int .i64 (t : Int)) (w.setRow g (cur.toList.take o ++ u8s (bs.take t) ++ cur.toList.drop (o + t)).toArray) := by
  by_cases h0 : t = 0
  · subst h0
    have e : (cur.toList.take o ++ u8s (bs.take 0) ++ cur.toList.drop (o + 0)).toArray = cur := by simp [u8s]
    rw [e, setRow_self w g cur 5 (0, 0) hg]
    have hmin : Nat.min bs.length dl = 0 := ht.symm
    rcases hv with ⟨rfl, rfl⟩ | ⟨a, cap, rfl, hc⟩
    · exact run_copy_none (P := Tryz.prog) w 22 22 ty 5 da none dl dc 0 0 Tryz.underlying22 size5 (by simp)
    · exact run_copy_none (P := Tryz.prog) w 22 22 ty 5 da (some a) dl dc bs.length cap Tryz.underlying22 size5 hmin
  · rcases hda with rfl | e
    · rcases hv with ⟨rfl, rfl⟩ | ⟨a, cap, rfl, hc⟩
      · simp at ht; omega
      · have hl : (bs.take t).length = t := by rw [List.length_take]; omega
        have := run_copy_row Tryz.prog w 22 22 ty 5 g o dl dc a bs.length cap cur 5 (u8s (bs.take t)) Tryz.underlying22 size5 hg (by rw [u8s_length, hl]; exact ht)
          (fun j u hu => hc j u (by
            rw [← u8s_take] at hu
            rw [List.getElem?_take] at hu
            split at hu
            · exact hu
            · cases hu)) (by rw [u8s_length, hl]; exact hfit) (u8s_one _)
        rw [u8s_length, hl] at this
        exact this
    · exact absurd e h0

/-- append onto a row of one's own, from whatever slice of bytes. -/
theorem run_append_all (w : World) (ty : TypeId) (v : Value) (M bs : List Nat) (hown : w.ownsRow 0 5 1 v M.length (u8s M)) (hlen : M.length + bs.length ≤ 1099511627776) (sv : Value) (h : SrcB w sv bs) :
    ∃ v' w', (Builtin.append_ #[22, 22] ty #[v, sv]).run Tryz.prog w = .ok v' w' ∧ w'.ownsRow 0 5 1 v' (M ++ bs).length (u8s (M ++ bs)) ∧ Keep (fun k => v.ownBlock = some k) w w' ∧ (v'.ownBlock = v.ownBlock ∨ ∃ k, v'.ownBlock = some k ∧ w.heap.size ≤ k) := by
  obtain ⟨i0, hi, hz0, hz1, hz2⟩ := info_parts info5
  have happ : u8s (M ++ bs) = u8s M ++ u8s bs := by simp [u8s]
  rcases h with ⟨rfl, rfl⟩ | ⟨a, c, rfl, hc⟩
  · refine ⟨v, w, ?_, by simpa using hown, Keep.refl _ _, .inl rfl⟩
    rcases hown.2 with ⟨rfl, h0⟩ | ⟨g, cap, cur, rfl, _, hg, hr1, hr2, _⟩
    · simp [Builtin.append_, run_underlying Tryz.underlying22, sizeOf, typeInfo, hi, Builtin.lenOf, go_sem]
    · have hcap : M.length ≤ cap := by omega
      simp [Builtin.append_, run_underlying Tryz.underlying22, sizeOf, typeInfo, hi, Builtin.lenOf, go_sem, hcap]
  · obtain ⟨v', w', hr, h2, h3, h4, h5⟩ := run_append_own_at (P := Tryz.prog) w 0 22 ty 5 i0 (.int .u8 0) 1 1 Tryz.underlying22 hi hz0 hz1 hz2 rfl (by decide) v M.length (u8s M) hown a bs.length c (u8s bs) (by simp [u8s_length]) hc (u8s_one bs) (by unfold maxLen; omega) (by omega) (Nat.zero_le _)
    refine ⟨v', w', hr, by rw [List.length_append, happ]; exact h2, (Keep.refl _ w).grown h3 (fun k e _ => e), ?_⟩
    rcases h5 with e | e
    · exact .inl e
    · exact .inr ⟨_, e, Nat.le_refl _⟩

theorem owns_kept {w w' : World} {S : Nat → Prop} {base : Nat} {v : Value} {n : Nat} {xs : List Value} (h : w.ownsRow base 5 1 v n xs) (hk : Keep S w w') (hS : ∀ g, v.ownBlock = some g → ¬ S g) : w'.ownsRow base 5 1 v n xs := by
  refine ⟨h.1, ?_⟩
  rcases h.2 with ⟨e, h0⟩ | ⟨g, cap, cur, rfl, hb, hg, hr⟩
  · exact .inl ⟨e, h0⟩
  · exact .inr ⟨g, cap, cur, rfl, hb, hk.obj hg (hS g rfl), hr⟩
theorem owns_ne {w : World} {base n e t : Nat} {v : Value} {xs : List Value} {wb : Nat} {cs : Array Value} (h : w.ownsRow base e 1 v n xs) (ho : w.heap[wb]? = some (.cells cs t (0, 0))) (hte : t ≠ e) : v.ownBlock ≠ some wb := by
  intro hv
  rcases h.2 with ⟨rfl, _⟩ | ⟨g, cap, cur, rfl, _, hg, _⟩
  · cases hv
  · obtain rfl : g = wb := by simpa [Value.ownBlock] using hv
    rw [ho] at hg; simp at hg; exact hte hg.2
/-- A row of one's own, as a slice of bytes. -/
theorem bytes_own {w : World} {v : Value} {M : List Nat} (h : w.ownsRow 0 5 1 v M.length (u8s M)) (hlt : ∀ j : Nat, M[j]?.getD 0 < 256) (hl : M.length < 2 ^ 48) : ∃ a cap g, v = .slice a M.length cap ∧ Bytes w a cap g 0 M ∧ (a = none ∧ M = [] ∨ a = some ⟨g, 0, none⟩ ∧ ∃ cur, w.heap[g]? = some (.cells cur 5 (0, 0)) ∧ cur.size = cap ∧ cur.toList.take M.length = u8s M ∧ cap ≤ maxLen) := by
  rcases h.2 with ⟨e, h0⟩ | ⟨g, cap, cur, e, hb, hg, h1, h2, h3, h4⟩
  · have : M = [] := List.length_eq_zero_iff.1 h0
    subst this
    exact ⟨none, 0, 0, e, ⟨.inr rfl, fun _ => rfl, fun j hj => by simp at hj, hlt, Nat.le_refl _, hl⟩, .inl ⟨rfl, rfl⟩⟩
  · subst e
    rw [Nat.mul_one] at h3 h4
    refine ⟨some ⟨g, 0, none⟩, cap, g, rfl, ⟨.inl rfl, (fun e => by cases e), fun j hj => ?_, hlt, h1, hl⟩, .inr ⟨rfl, cur, hg, h3, h4, h2⟩⟩
    have := h.cells (g := g) rfl j _ (u8s_at M j hj)
    rw [add0] at this
    rw [Nat.zero_add]; exact this
theorem owns_mk {w : World} {g cap : Nat} {cur : Array Value} {M : List Nat} (hg : w.heap[g]? = some (.cells cur 5 (0, 0))) (h1 : M.length ≤ cap) (h2 : cap ≤ maxLen) (h3 : cur.size = cap) (h4 : cur.toList.take M.length = u8s M) : w.ownsRow 0 5 1 (.slice (some ⟨g, 0, none⟩) M.length cap) M.length (u8s M) :=
  ⟨by rw [u8s_length, Nat.mul_one], .inr ⟨g, cap, cur, rfl, Nat.zero_le _, hg, h1, h2, by rw [h3, Nat.mul_one], by rw [Nat.mul_one]; exact h4⟩⟩

theorem made_u8 (n : Nat) : madeCells #[.int .u8 0] n = (u8s (List.replicate n 0)).toArray := by
  refine Array.ext (by simp [size_madeCells, u8s]) fun i h1 h2 => ?_
  simp [madeCells, u8s, Nat.mod_one]
/-- make of l bytes, room for c. -/
theorem run_make_u8 (l c : Nat) (hlc : l ≤ c) (hc : c ≤ 281474976710656) (w : World) :
    (Instr.makeSlice 22 (.int .i64 (l : Int)) (.int .i64 (c : Int))).run Tryz.prog w = .ok (.slice (some ⟨w.heap.size, 0, none⟩) l c) (w.alloc (.cells (u8s (List.replicate c 0)).toArray 5)) := by
  obtain ⟨i0, hi, hz0, hz1, hz2⟩ := info_parts info5
  have hr := run_make (P := Tryz.prog) w 22 5 i0 (.int .u8 0) Tryz.underlying22 hi hz0 .i64 .i64 (l : Int) (c : Int) (by omega) (by omega) (by rw [hz2]; omega) (by omega)
  simp only [Int.toNat_natCast, hz1, Nat.mul_one] at hr
  rw [show (Value.int .u8 0).cells = #[.int .u8 0] from rfl, made_u8] at hr
  exact hr

end Go.Proofs.YtnokemcogjoonaaGreatDoor.Fd

namespace Go.Proofs.YtnokemcogjoonaaGreatDoor.Fd

/-- Byte i, or 0. -/
def byteN (bs : List Nat) (i : Nat) : Nat := bs[i]?.getD 0
/-- The odd number by which sums are spread. -/
def spreadN : Nat := 11400714819323198485
/-- The sum of k bytes from a place on, not reduced. -/
def hashZ (bs : List Nat) (p : Nat) : Nat → Nat
  | 0 => 0
  | k + 1 => hashZ bs p k * spreadN + byteN bs (p + k)
theorem hashZ_next (bs : List Nat) (p k : Nat) : hashZ bs p (k + 1) = hashZ bs (p + 1) k + spreadN ^ k * byteN bs p := by
  induction k with
  | zero => simp [hashZ]
  | succ k ih =>
    have e1 : hashZ bs p (k + 1 + 1) = hashZ bs p (k + 1) * spreadN + byteN bs (p + (k + 1)) := rfl
    have e2 : hashZ bs (p + 1) (k + 1) = hashZ bs (p + 1) k * spreadN + byteN bs (p + 1 + k) := rfl
    rw [e1, e2, ih, Nat.add_mul, Nat.pow_succ, show p + 1 + k = p + (k + 1) from by omega, Nat.mul_right_comm]
    omega
theorem hashZ_same (bs : List Nat) (p q k : Nat) (h : ∀ i, i < k → byteN bs (p + i) = byteN bs (q + i)) : hashZ bs p k = hashZ bs q k := by
  induction k with
  | zero => rfl
  | succ k ih => simp only [hashZ]; rw [ih (fun i hi => h i (by omega)), h k (by omega)]
/-- .. reduced. -/
def hashN (bs : List Nat) (p k : Nat) : Nat := hashZ bs p k % 18446744073709551616
theorem hashN_lt (bs : List Nat) (p k : Nat) : hashN bs p k < 18446744073709551616 := Nat.mod_lt _ (by decide)
/-- What the first byte of k counts for. -/
def leadN (k : Nat) : Nat := spreadN ^ (k - 1) % 18446744073709551616
theorem leadN_lt (k : Nat) : leadN k < 18446744073709551616 := Nat.mod_lt _ (by decide)
theorem hashN_succ (bs : List Nat) (p k : Nat) : (hashN bs p k * spreadN + byteN bs (p + k)) % 18446744073709551616 = hashN bs p (k + 1) := by
  unfold hashN
  simp only [hashZ]
  rw [Nat.add_mod, Nat.mul_mod, Nat.mod_mod, ← Nat.mul_mod, ← Nat.add_mod]
theorem leadN_succ (k : Nat) (hk : 0 < k) : (leadN k * spreadN) % 18446744073709551616 = leadN (k + 1) := by
  unfold leadN
  rw [Nat.mul_mod, Nat.mod_mod, ← Nat.mul_mod, ← Nat.pow_succ]
  congr 2
  omega
/-- The sum at a place, as it is carried on: it stays as it was where the bytes end. -/
def sumN (bs : List Nat) (span p : Nat) : Nat := if span ≤ bs.length then hashN bs (min p (bs.length - span)) span else 0
theorem sumN_lt (bs : List Nat) (span p : Nat) : sumN bs span p < 18446744073709551616 := by
  unfold sumN
  split
  · exact hashN_lt _ _ _
  · decide
theorem sumN_in (bs : List Nat) (span p : Nat) (h : p + span ≤ bs.length) : sumN bs span p = hashN bs p span := by
  unfold sumN
  rw [if_pos (by omega), Nat.min_eq_left (by omega)]
theorem sumN_out (bs : List Nat) (span p : Nat) (h : bs.length ≤ p + span) : sumN bs span (p + 1) = sumN bs span p := by
  unfold sumN
  split
  · congr 1; omega
  · rfl
/-- The lead, as it stands. -/
def leadM (bs : List Nat) (span : Nat) : Nat := if span ≤ bs.length then leadN span else 1
theorem leadM_lt (bs : List Nat) (span : Nat) : leadM bs span < 18446744073709551616 := by
  unfold leadM
  split
  · exact leadN_lt _
  · decide
theorem mod_step (A L b S c m : Int) : (((A % m - ((L % m) * b) % m) % m * S) % m + c) % m = ((A - L * b) * S + c) % m := by
  have e0 : ((L % m) * b) % m = (L * b) % m := by rw [Int.mul_emod, Int.emod_emod, ← Int.mul_emod]
  rw [e0, ← Int.sub_emod A (L * b) m, Int.add_emod ((A - L * b) * S), Int.mul_emod (A - L * b) S, Int.add_emod (((A - L * b) % m * S) % m), Int.mul_emod ((A - L * b) % m) S, Int.emod_emod, Int.emod_emod]
/-- One place on. -/
theorem sum_step (bs : List Nat) (span p : Nat) (h1 : 1 ≤ span) (h : p + span < bs.length) :
    ((((sumN bs span p : Int) - ((leadM bs span : Int) * (byteN bs p : Int)) % 18446744073709551616) % 18446744073709551616 * (spreadN : Int)) % 18446744073709551616 + (byteN bs (p + span) : Int)) % 18446744073709551616 = ((sumN bs span (p + 1) : Nat) : Int) := by
  rw [sumN_in bs span p (by omega), sumN_in bs span (p + 1) (by omega)]
  unfold leadM hashN leadN
  rw [if_pos (by omega)]
  obtain ⟨k, rfl⟩ : ∃ k, span = k + 1 := ⟨span - 1, by omega⟩
  have hz : (hashZ bs (p + 1) (k + 1) : Int) = ((hashZ bs p (k + 1) : Int) - (spreadN : Int) ^ k * (byteN bs p : Int)) * (spreadN : Int) + (byteN bs (p + (k + 1)) : Int) := by
    have e1 := hashZ_next bs p k
    have e2 : hashZ bs (p + 1) (k + 1) = hashZ bs (p + 1) k * spreadN + byteN bs (p + 1 + k) := rfl
    have e3 : (hashZ bs p (k + 1) : Int) = (hashZ bs (p + 1) k : Int) + (spreadN : Int) ^ k * (byteN bs p : Int) := by exact_mod_cast e1
    have e4 : (hashZ bs (p + 1) (k + 1) : Int) = (hashZ bs (p + 1) k : Int) * (spreadN : Int) + (byteN bs (p + (k + 1)) : Int) := by
      rw [e2, show p + 1 + k = p + (k + 1) from by omega]; push_cast; rfl
    rw [e4, e3, Int.add_sub_cancel]
  have em : ((18446744073709551616 : Nat) : Int) = 18446744073709551616 := rfl
  rw [Nat.add_sub_cancel]
  simp only [Int.natCast_emod, Int.natCast_pow, em]
  rw [hz]
  exact mod_step _ _ _ _ _ _
end Go.Proofs.YtnokemcogjoonaaGreatDoor.Fd

namespace Go.Proofs.YtnokemcogjoonaaGreatDoor.Fd
open Go.RowKit Go.Shelf

/-- How many bits a number has. -/
def lenN (x : Nat) : Nat := if x = 0 then 0 else Nat.log2 x + 1
theorem lenN_zero : lenN 0 = 0 := rfl
theorem lenN_pos (x : Nat) (h : x ≠ 0) : 2 ^ (lenN x - 1) ≤ x ∧ x < 2 ^ lenN x ∧ 0 < lenN x := by
  unfold lenN
  rw [if_neg h]
  refine ⟨?_, ?_, by omega⟩
  · rw [Nat.add_sub_cancel]; exact Nat.log2_self_le h
  · exact (Nat.log2_lt h).1 (Nat.lt_succ_self _)
theorem lenN_le (x k : Nat) (h : x < 2 ^ k) : lenN x ≤ k := by
  unfold lenN
  split
  · omega
  · rename_i h0
    have := (Nat.log2_lt h0 (k := k)).2 h
    omega
theorem lenN_eq (x k : Nat) (h1 : 2 ^ k ≤ x) (h2 : x < 2 ^ (k + 1)) : lenN x = k + 1 := by
  have h0 : x ≠ 0 := by have : 0 < 2 ^ k := Nat.pow_pos (by omega); omega
  unfold lenN
  rw [if_neg h0, (Nat.log2_eq_iff h0).2 ⟨h1, h2⟩]
theorem lenN_half (x : Nat) (h : x ≠ 0) : lenN x = lenN (x / 2) + 1 := by
  by_cases h1 : x = 1
  · subst h1; rfl
  · have h2 : x / 2 ≠ 0 := by omega
    obtain ⟨a, b, c⟩ := lenN_pos (x / 2) h2
    refine lenN_eq x (lenN (x / 2)) ?_ ?_
    · have e : 2 ^ lenN (x / 2) = 2 ^ (lenN (x / 2) - 1) * 2 := by rw [← Nat.pow_succ]; congr 1; omega
      omega
    · rw [Nat.pow_succ]; omega
theorem lenN_shift (x : Nat) (h : 256 ≤ x) : lenN x = 8 + lenN (x / 256) := by
  have h0 : x / 256 ≠ 0 := by omega
  obtain ⟨a, b, c⟩ := lenN_pos (x / 256) h0
  obtain ⟨k, hk⟩ : ∃ k, lenN (x / 256) = k + 1 := ⟨lenN (x / 256) - 1, by omega⟩
  rw [hk] at a b ⊢
  rw [Nat.add_sub_cancel] at a
  rw [lenN_eq x (k + 8) ?_ ?_]
  · omega
  · rw [Nat.pow_add]; omega
  · rw [show k + 8 + 1 = k + 1 + 8 from by omega, Nat.pow_add]; omega

set_option maxRecDepth 100000 in
set_option maxHeartbeats 1000000 in
/-- math/bits.Len64 of a number below 2^16. -/
theorem len64_any (x : Nat) (hx : x < 65536) (w : World) : Calls Tryz.prog 90 #[.int .u64 (x : Int)] w fun e w' => e = .returned (.int .i64 ((lenN x : Nat) : Int)) ∧ w' = w := by
  have g1 : ¬ (4294967296 : Int) ≤ (x : Int) := by omega
  have g2 : ¬ (65536 : Int) ≤ (x : Int) := by omega
  by_cases h : x < 256
  · have g3 : ¬ (256 : Int) ≤ (x : Int) := by omega
    go_enter Tryz.func90, Tryz.ntmps90
    go_wp2
    go_ret
    refine ⟨congrArg (fun x => Ending.returned (Value.int .i64 x)) ?_, rfl⟩
    clear w g1 g2 hx
    revert g3 h
    revert x
    decide +kernel
  · have g3 : (256 : Int) ≤ (x : Int) := by omega
    have hs := lenN_shift x (by omega)
    obtain ⟨y, hy⟩ : ∃ y, y = x / 256 := ⟨_, rfl⟩
    have hd : (x : Int) / 2 ^ 8 = (y : Int) := by omega
    have hd' : (x : Int) / 256 = (y : Int) := by omega
    rw [← hy] at hs
    have hy2 : y < 256 := by omega
    have hyI : (y : Int) < 256 := by omega
    generalize lenN x = lx at hs ⊢
    have HS := (show Hid _ from hs)
    have HY := (show Hid _ from hy)
    clear hs hy
    go_enter Tryz.func90, Tryz.ntmps90
    go_wp2
    go_ret
    refine ⟨congrArg (fun x => Ending.returned (Value.int .i64 x)) ?_, rfl⟩
    rw [HS.out]
    clear w g1 g2 g3 hx HS HY hd hd' h x lx
    revert hyI hy2
    revert y
    decide +kernel

set_option maxHeartbeats 400000 in
theorem len_any (x : Nat) (hx : x < 65536) (w : World) : Calls Tryz.prog 62 #[.int .u64 (x : Int)] w fun e w' => e = .returned (.int .i64 ((lenN x : Nat) : Int)) ∧ w' = w := by
  go_enter Tryz.func62, Tryz.ntmps62
  go_wp2_with (go_at_call 90; refine (len64_any x hx _).mono ?_; rintro e w' ⟨rfl, rfl⟩)
  go_ret
  exact ⟨rfl, rfl⟩
theorem len_i (x : Nat) (xi : Int) (hi : xi = (x : Int)) (hx : x < 65536) (w : World) : Calls Tryz.prog 62 #[.int .u64 xi] w fun e w' => e = .returned (.int .i64 ((lenN x : Nat) : Int)) ∧ w' = w := by
  subst hi; exact len_any x hx w


/-- A number, brought into bounds. -/
def bringN (n low high : Int) : Int := min (max n low) high
section
attribute [local go_sem] maxSem_eq minSem_eq
set_option maxHeartbeats 400000 in
theorem bring_any (n low high : Int) (w : World) : Calls Tryz.prog 23 #[.int .i64 n, .int .i64 low, .int .i64 high] w fun e w' => e = .returned (.int .i64 (bringN n low high)) ∧ w' = w := by
  obtain ⟨m, hm⟩ : ∃ m, m = max n low := ⟨_, rfl⟩
  obtain ⟨r, hr⟩ : ∃ r, r = min m high := ⟨_, rfl⟩
  have h1 := maxSem_run #[3, 3] 3 n low m hm
  have h2 := minSem_run #[3, 3] 3 m high r hr
  have e : bringN n low high = r := by rw [hr, hm]; rfl
  rw [e]
  clear hm hr e
  go_enter Tryz.func23, Tryz.ntmps23
  go_wp2_with fail
  go_ret
  exact ⟨rfl, rfl⟩
end
end Go.Proofs.YtnokemcogjoonaaGreatDoor.Fd

namespace Go.Proofs.YtnokemcogjoonaaGreatDoor.Fd
open Go.RowKit Go.Shelf
set_option linter.unusedVariables false

theorem run_mid (gb off len cap lo hi : Nat) (h1 : lo < hi) (h2 : hi ≤ cap) (w : World) :
    (sliceSem 22 (.slice (some ⟨gb, off, none⟩) len cap) (some (.int .i64 (lo : Int))) (some (.int .i64 (hi : Int))) none).run Tryz.prog w = .ok (.slice (some ⟨gb, off + lo, none⟩) (hi - lo) (cap - lo)) w := by
  obtain ⟨i0, hi0, hz0, hz1, hz2⟩ := info_parts info5
  have e : ¬ cap = lo := by omega
  have e1 : lo ≤ hi := by omega
  simp [sliceSem, Instr.slice, run_underlying Tryz.underlying22, Instr.sliceBounds, Instr.sliceBound, asIntOf, h2, e1, sizeOf, typeInfo, hi0, hz1, e, addO]

set_option maxRecDepth 100000 in
set_option maxHeartbeats 1000000 in
/-- How many bytes two stretches of one text have in common. -/
theorem alike_any (gb off cap c1 c2 p q l : Nat) (bs : List Nat) (w : World) (hB : Bytes w (some ⟨gb, off, none⟩) cap gb off bs) (hp : p + l ≤ bs.length) (hq : q + l ≤ bs.length) :
    Calls Tryz.prog 126 #[.slice (some ⟨gb, off + p, none⟩) l c1, .slice (some ⟨gb, off + q, none⟩) l c2] w fun e w' => (∃ n : Nat, e = .returned (.int .i64 (n : Int)) ∧ n ≤ l ∧ (∀ i, i < n → byteN bs (p + i) = byteN bs (q + i)) ∧ (n < l → byteN bs (p + n) ≠ byteN bs (q + n))) ∧ w' = w := by
  have hlen := hB.len
  have HB := (show Hid (∀ j, j < bs.length → w.cell? ⟨gb, off + j, none⟩ = some (.int .u8 ((byteN bs j : Nat) : Int))) from hB.cells)
  have HL := (show Hid (∀ j, byteN bs j < 256) from hB.lt)
  have HP := (show Hid (p + l ≤ bs.length ∧ q + l ≤ bs.length) from ⟨hp, hq⟩)
  have hl : l < 2 ^ 48 := by omega
  clear hB hp hq hlen
  go_enter Tryz.func126, Tryz.ntmps126
  go_wp2_with fail
  go_loopw [9] (fun v wr => ∃ i : Nat, v = .int .i64 (i : Int) ∧ wr = w ∧ i ≤ l ∧ Hid (∀ j, j < i → byteN bs (p + j) = byteN bs (q + j))) (fun v _ => l - (intOf v).toNat)
  case atStart => exact ⟨0, rfl, rfl, Nat.zero_le _, fun j hj => absurd hj (by omega)⟩
  case round =>
    obtain ⟨i, rfl, rfl, hil, HI⟩ := hrel
    by_cases hlt : i < l
    · have hltI : (i : Int) < (l : Int) := by omega
      have e1 := HB.out (p + i) (by have := HP.out.1; omega)
      have e2 := HB.out (q + i) (by have := HP.out.2; omega)
      rw [← Nat.add_assoc] at e1 e2
      have b1 := HL.out (p + i)
      have b2 := HL.out (q + i)
      obtain ⟨x, hx⟩ : ∃ x, x = byteN bs (p + i) := ⟨_, rfl⟩
      obtain ⟨y, hy⟩ : ∃ y, y = byteN bs (q + i) := ⟨_, rfl⟩
      rw [← hx] at e1 b1
      rw [← hy] at e2 b2
      obtain ⟨i1, hi1⟩ : ∃ i1, i1 = i + 1 := ⟨_, rfl⟩
      have hadd : (i : Int) + 1 = (i1 : Int) := by omega
      by_cases hxy : y = x
      · have hne : ((y : Int) != (x : Int)) = false := by simp [hxy]
        have HN := (show Hid (∀ j, j < i1 → byteN bs (p + j) = byteN bs (q + j)) from fun j hj => by
          by_cases h : j < i
          · exact HI.out j h
          · obtain rfl : j = i := by omega
            rw [← hx, ← hy, hxy])
        have HI1 := (show Hid (i1 = i + 1) from hi1)
        clear hx hy hxy hi1 HI
        go_wp2_with fail
        go_roundw
        case rel => exact ⟨i1, rfl, trivial, by have := HI1.out; omega, HN.out⟩
        case measure => have := HI1.out; simp [intOf]; omega
      · have hne : ((y : Int) != (x : Int)) = true := by rw [bne_iff_ne]; omega
        have HN := (show Hid (i < l → byteN bs (p + i) ≠ byteN bs (q + i)) from fun _ => by rw [← hx, ← hy]; exact fun e => hxy e.symm)
        clear hx hy hxy hi1
        go_wp2_with fail
        go_ret
        exact ⟨⟨i, rfl, hil, HI.out, HN.out⟩, rfl⟩
    · obtain rfl : i = l := by omega
      have hltI : ¬ (i : Int) < (i : Int) := by omega
      go_wp2_with fail
      go_ret
      exact ⟨⟨i, rfl, hil, HI.out, fun h => absurd h hlt⟩, rfl⟩

/-- How many bytes two stretches have in common. -/
def IsLike (bs : List Nat) (p q l n : Nat) : Prop := n ≤ l ∧ (∀ i, i < n → byteN bs (p + i) = byteN bs (q + i)) ∧ (n < l → byteN bs (p + n) ≠ byteN bs (q + n))
theorem some_like (bs : List Nat) (p q l : Nat) : ∃ n, IsLike bs p q l n := by
  induction l with
  | zero => exact ⟨0, Nat.le_refl _, fun i hi => absurd hi (by omega), fun h => absurd h (by omega)⟩
  | succ l ih =>
    obtain ⟨n, h1, h2, h3⟩ := ih
    by_cases e : n < l
    · exact ⟨n, by omega, h2, fun _ => h3 e⟩
    · obtain rfl : n = l := by omega
      by_cases e2 : byteN bs (p + n) = byteN bs (q + n)
      · refine ⟨n + 1, Nat.le_refl _, fun i hi => ?_, fun h => absurd h (by omega)⟩
        by_cases e3 : i < n
        · exact h2 i e3
        · obtain rfl : i = n := by omega
          exact e2
      · exact ⟨n, by omega, h2, fun _ => e2⟩
theorem IsLike.one {bs : List Nat} {p q l n m : Nat} (h : IsLike bs p q l n) (k : IsLike bs p q l m) : n = m := by
  obtain ⟨h1, h2, h3⟩ := h
  obtain ⟨k1, k2, k3⟩ := k
  rcases Nat.lt_trichotomy n m with e | e | e
  · exact absurd (k2 n e) (h3 (by omega))
  · exact e
  · exact absurd (h2 m e) (k3 (by omega))
theorem alike_is (gb off cap c1 c2 p q l n : Nat) (bs : List Nat) (w : World) (hB : Bytes w (some ⟨gb, off, none⟩) cap gb off bs) (hp : p + l ≤ bs.length) (hq : q + l ≤ bs.length) (hn : IsLike bs p q l n) :
    Calls Tryz.prog 126 #[.slice (some ⟨gb, off + p, none⟩) l c1, .slice (some ⟨gb, off + q, none⟩) l c2] w fun e w' => e = .returned (.int .i64 (n : Int)) ∧ w' = w := by
  refine (alike_any gb off cap c1 c2 p q l bs w hB hp hq).mono ?_
  rintro e w' ⟨⟨m, rfl, h1, h2, h3⟩, rfl⟩
  obtain rfl := hn.one ⟨h1, h2, h3⟩
  exact ⟨rfl, rfl⟩

set_option maxRecDepth 100000 in
set_option maxHeartbeats 1000000 in
theorem dear_any (size back : Nat) (w : World) (hs : size < 1000000) (hb : back < 65536) :
    Calls Tryz.prog 127 #[.int .i64 (size : Int), .int .i64 (back : Int)] w fun e w' => (∃ d : Bool, e = .returned (.bool d) ∧ (back = 1 → 2 ≤ size → d = false)) ∧ w' = w := by
  have HL := len_any back hb w
  obtain ⟨l, hl⟩ : ∃ l, l = lenN back := ⟨_, rfl⟩
  rw [← hl] at HL
  have H1 := (show Hid (back = 1 → l = 1) from fun h => by rw [hl, h]; rfl)
  clear hl
  go_enter Tryz.func127, Tryz.ntmps127
  go_wp2_with fail
  refine HL.mono ?_
  rintro e w1 ⟨rfl, rfl⟩
  clear HL
  go_wp2_with fail
  go_ret
  exact ⟨⟨_, rfl, fun h1 h2 => decide_eq_false (by have := H1.out h1; omega)⟩, rfl⟩
end Go.Proofs.YtnokemcogjoonaaGreatDoor.Fd

namespace Go.Proofs.YtnokemcogjoonaaGreatDoor
open Go.RowKit Go.Shelf
set_option linter.unusedVariables false

/-- The cells of a state. -/
structure Cells (cs : Array Value) (s : Se) (c : Nat → Nat) : Prop where
  size : cs.size = 14143
  e0 : cs[0]? = some (.int .i64 (s.lc : Int))
  e1 : cs[1]? = some (.int .i64 (s.lp : Int))
  e2 : cs[2]? = some (.int .i64 (s.pb : Int))
  e3 : cs[3]? = some (.int .u8 (s.ph : Int))
  e4 : cs[4]? = some (.int .u32 (s.r0 : Int))
  e5 : cs[5]? = some (.int .u32 (s.r1 : Int))
  e6 : cs[6]? = some (.int .u32 (s.r2 : Int))
  e7 : cs[7]? = some (.int .u32 (s.r3 : Int))
  ch : ∀ i, 8 ≤ i → i < 14143 → cs[i]? = some (.int .u16 ((c i : Nat) : Int))
structure SeOk (s : Se) : Prop where
  lc : s.lc + s.lp ≤ 4
  pb : s.pb ≤ 4
  ph : s.ph < 12
  r0 : s.r0 < 4294967296
  r1 : s.r1 < 4294967296
  r2 : s.r2 < 4294967296
  r3 : s.r3 < 4294967296
/-- Block b is a state. -/
structure IsS (w : World) (b : Nat) (s : Se) (c : Nat → Nat) : Prop where
  obj : ∃ cs, w.heap[b]? = some (.cells cs 88 (0, 0)) ∧ Cells cs s c
  ok : SeOk s
  lt : ∀ i, c i < 65536
theorem IsS.keep {w w' : World} {S : Nat → Prop} {b : Nat} {s : Se} {c : Nat → Nat} (h : IsS w b s c) (hk : Keep S w w') (h1 : ¬ S b) : IsS w' b s c := by
  obtain ⟨cs, ho, hc⟩ := h.obj
  exact ⟨⟨cs, hk.obj ho h1, hc⟩, h.ok, h.lt⟩
theorem IsS.block {w : World} {b : Nat} {s : Se} {c : Nat → Nat} (h : IsS w b s c) : b < w.heap.size := by
  obtain ⟨cs, ho, hc⟩ := h.obj
  exact obj_lt ho
theorem IsS.ne {w : World} {b k : Nat} {s : Se} {c : Nat → Nat} {cs : Array Value} {t : TypeId} (h : IsS w b s c) (ho : w.heap[k]? = some (.cells cs t (0, 0))) (ht : t ≠ 88) : b ≠ k := by
  obtain ⟨cs', ho', hc⟩ := h.obj
  exact ne_of_type ho' ho (fun e => ht e.symm)
theorem Cells.put {cs : Array Value} {s : Se} {c : Nat → Nat} (h : Cells cs s c) (i x : Nat) (h8 : 8 ≤ i) : Cells (cs.setIfInBounds i (.int .u16 (x : Int))) s (putC c i x) := by
  have hs := h.size
  have far : ∀ k, k < 8 → (cs.setIfInBounds i (.int .u16 (x : Int)))[k]? = cs[k]? := fun k hk => by
    rw [Array.getElem?_setIfInBounds, if_neg (by omega)]
  refine ⟨by rw [Array.size_setIfInBounds]; exact hs, (far 0 (by omega)).trans h.e0, (far 1 (by omega)).trans h.e1, (far 2 (by omega)).trans h.e2, (far 3 (by omega)).trans h.e3, (far 4 (by omega)).trans h.e4, (far 5 (by omega)).trans h.e5, (far 6 (by omega)).trans h.e6, (far 7 (by omega)).trans h.e7, fun k k1 k2 => ?_⟩
  rw [Array.getElem?_setIfInBounds]
  unfold putC
  by_cases e : i = k
  · subst e
    rw [if_pos rfl, if_pos rfl, if_pos (by omega)]
  · rw [if_neg e, if_neg (fun q => e q.symm)]
    exact h.ch k k1 k2
/-- What lies in a state's first cells. -/
theorem IsS.first {w : World} {b : Nat} {s : Se} {c : Nat → Nat} (h : IsS w b s c) :
    w.cell? ⟨b, 0, none⟩ = some (.int .i64 (s.lc : Int)) ∧ w.cell? ⟨b, 1, none⟩ = some (.int .i64 (s.lp : Int)) ∧ w.cell? ⟨b, 2, none⟩ = some (.int .i64 (s.pb : Int)) ∧ w.cell? ⟨b, 3, none⟩ = some (.int .u8 (s.ph : Int)) ∧
    w.cell? ⟨b, 4, none⟩ = some (.int .u32 (s.r0 : Int)) ∧ w.cell? ⟨b, 5, none⟩ = some (.int .u32 (s.r1 : Int)) ∧ w.cell? ⟨b, 6, none⟩ = some (.int .u32 (s.r2 : Int)) ∧ w.cell? ⟨b, 7, none⟩ = some (.int .u32 (s.r3 : Int)) ∧
    ∀ i, w.frozen? ⟨b, i, none⟩ = false := by
  obtain ⟨cs, ho, hc⟩ := h.obj
  exact ⟨(cell_of ho 0).trans hc.e0, (cell_of ho 1).trans hc.e1, (cell_of ho 2).trans hc.e2, (cell_of ho 3).trans hc.e3, (cell_of ho 4).trans hc.e4, (cell_of ho 5).trans hc.e5, (cell_of ho 6).trans hc.e6, (cell_of ho 7).trans hc.e7, fun i => frozen_of ho i⟩
/-- A state and a decoder. -/
structure Pr (w : World) (sb db gb : Nat) (s : Se) (x : Cx) : Prop where
  st : IsS w sb s x.c
  de : IsD w db gb x.d
  ne : gb ≠ sb
/-- What reading may turn. -/
def SD (sb db k : Nat) : Prop := k = db ∨ k = sb
theorem Pr.keep {w w' : World} {S : Nat → Prop} {sb db gb : Nat} {s : Se} {x : Cx} (h : Pr w sb db gb s x) (hk : Keep S w w') (h1 : ¬ S sb) (h2 : ¬ S db) (h3 : ¬ S gb) : Pr w' sb db gb s x :=
  ⟨h.st.keep hk h1, h.de.keep hk h2 h3, h.ne⟩
theorem Pr.sd {w : World} {sb db gb : Nat} {s : Se} {x : Cx} (h : Pr w sb db gb s x) : sb ≠ db := by
  obtain ⟨a, cap, off, ho, hB⟩ := h.de.obj
  exact h.st.ne ho (by decide)
theorem Pr.same {w : World} {sb db gb : Nat} {s : Se} {x : Cx} (h : Pr w sb db gb s x) {W : World} (e1 : W.heap = w.heap) (e2 : W.os = w.os) (e3 : W.tape = w.tape) (e4 : W.output = w.output) : Pr W sb db gb s x :=
  h.keep (S := noBlock) ((Keep.refl _ w).same e1 e2 e3 e4) (fun h => h) (fun h => h) (fun h => h)
theorem bitI_N (b : Bool) : bitI b = ((bN b : Nat) : Int) := by cases b <;> rfl
theorem bit_any (sb db gb i : Nat) (s : Se) (x : Cx) (w : World) (h : Pr w sb db gb s x) (h8 : 8 ≤ i) (hi : i < 14143) :
    Calls Tryz.prog 78 #[.pointer (some ⟨db, 0, none⟩), .pointer (some ⟨sb, i, none⟩)] w fun e w' => e = .returned (.int .i64 ((bN (bitX x i) : Nat) : Int)) ∧ Pr w' sb db gb s (stepX x i) ∧ Keep (SD sb db) w w' := by
  obtain ⟨cs, ho, hc⟩ := h.st.obj
  refine (bitD_any db gb sb i (x.c i) 88 cs x.d w h.de h.sd ho (hc.ch i h8 hi) (h.st.lt i) h.ne).mono ?_
  rintro e w' ⟨rfl, h1, h2, h3⟩
  rw [bitI_N]
  refine ⟨rfl, ⟨⟨⟨_, h2, hc.put i _ h8⟩, h.st.ok, fun k => ?_⟩, h1, h.ne⟩, h3⟩
  show putC _ _ _ k < _
  unfold putC
  split
  · have := fairN_bd (x.c i)
    exact Nat.lt_of_le_of_lt (learnN_bd (bitX x i) this.1 this.2).2 (by decide)
  · exact h.st.lt k

end Go.Proofs.YtnokemcogjoonaaGreatDoor

namespace Go.Proofs.YtnokemcogjoonaaGreatDoor
open Go.RowKit Go.Shelf
set_option linter.unusedVariables false

theorem walkM_bd (o : Nat) (k : Nat) : ∀ (m A : Nat) (x : Cx), A ≤ m → m < 2 * A → A * 2 ^ k ≤ (walkM o k m x).1 ∧ (walkM o k m x).1 < 2 * (A * 2 ^ k) := by
  induction k with
  | zero => intro m A x h1 h2; simp [walkM, ret]; omega
  | succ k ih =>
    intro m A x h1 h2
    have := ih (2 * m + bN (bitX x (o + m))) (2 * A) (stepX x (o + m)) (by omega) (by have := bN_le (bitX x (o + m)); omega)
    rw [Nat.pow_succ, show A * (2 ^ k * 2) = 2 * A * 2 ^ k from by rw [Nat.mul_comm (2 ^ k) 2, ← Nat.mul_assoc, Nat.mul_comm A 2]]
    exact this

set_option maxHeartbeats 1000000 in
theorem walk_any (sb db gb o len cap k m A E : Nat) (s : Se) (x : Cx) (w : World) (h : Pr w sb db gb s x) (hA : 1 ≤ A) (h1 : A ≤ m) (h2 : m < 2 * A) (hE : E = A * 2 ^ k) (h8 : 8 ≤ o) (ho : o + E ≤ 14143) (hl : E ≤ len) (h48 : len < 2 ^ 48) :
    Calls Tryz.prog 133 #[.slice (some ⟨sb, o, none⟩) len cap, .pointer (some ⟨db, 0, none⟩), .int .i64 (m : Int), .int .i64 (E : Int)] w fun e w' =>
      e = .returned (.int .i64 (((walkM o k m x).1 - E : Nat) : Int)) ∧ E ≤ (walkM o k m x).1 ∧ (walkM o k m x).1 < 2 * E ∧ Pr w' sb db gb s (walkM o k m x).2 ∧ Keep (SD sb db) w w' := by
  have hbd := walkM_bd o k m A x h1 h2
  rw [← hE] at hbd
  have HB := hid hbd
  have HE := hid hE
  have HP := (show Hid (Pr w sb db gb s x ∧ A ≤ m ∧ m < 2 * A) from ⟨h, h1, h2⟩)
  clear h hE h1 h2 hbd
  generalize hR : walkM o k m x = R at *
  have HR := hid hR
  clear hR
  have hEI : (E : Int) ≤ (len : Int) := by omega
  go_enter Tryz.func133, Tryz.ntmps133
  go_wp2_with fail
  go_loopw [2] (fun i wr => ∃ (q : Nat), i = .int .i64 q ∧ q < 2 * E ∧ Hid (∃ (r B : Nat) (y : Cx), 1 ≤ B ∧ B ≤ q ∧ q < 2 * B ∧ E = B * 2 ^ r ∧ walkM o r q y = R ∧ Pr wr sb db gb s y ∧ Keep (SD sb db) w wr)) (fun i _ => 2 * E - (intOf i).toNat)
  case atStart =>
    refine ⟨m, rfl, ?_, (show ∃ (r B : Nat) (y : Cx), _ from ⟨k, A, x, hA, HP.out.2.1, HP.out.2.2, HE.out, HR.out, HP.out.1, Keep.refl _ _⟩)⟩
    have := HP.out.2.2
    have := HE.out
    have : A * 1 ≤ A * 2 ^ k := Nat.mul_le_mul_left _ (Nat.one_le_two_pow)
    omega
  case round =>
    obtain ⟨q, rfl, hq, HQ⟩ := hrel
    by_cases hlt : q < E
    · obtain ⟨r, B, y, b1, b2, b3, b4, b5, b6, b7⟩ := HQ.out
      clear HQ
      obtain ⟨r, rfl⟩ : ∃ r', r = r' + 1 := ⟨r - 1, by
        rcases r with _ | r
        · simp at b4; omega
        · omega⟩
      have hltI : (q : Int) < (E : Int) := by omega
      have hqI : (q : Int) < (len : Int) := by omega
      have HC := hid (bit_any sb db gb (o + q) s y _ b6 (by omega) (by omega))
      have hb := bN_le (bitX y (o + q))
      have HN := (show Hid (E = (2 * B) * 2 ^ r ∧ walkM o r (2 * q + bN (bitX y (o + q))) (stepX y (o + q)) = R ∧ 1 ≤ B ∧ B ≤ q ∧ q < 2 * B ∧ Keep (SD sb db) w wr) from ⟨by rw [b4, Nat.pow_succ, Nat.mul_comm (2 ^ r) 2, ← Nat.mul_assoc, Nat.mul_comm B 2], b5, b1, b2, b3, b7⟩)
      clear b1 b2 b3 b4 b5 b6 b7
      generalize stepX y (o + q) = y' at *
      generalize bN (bitX y (o + q)) = bt at *
      go_wp2_with fail
      refine HC.out.mono ?_
      rintro e w1 ⟨rfl, g1, g2⟩
      have HG := (show Hid (Pr w1 sb db gb s y' ∧ Keep (SD sb db) w w1) from ⟨g1, HN.out.2.2.2.2.2.trans' g2⟩)
      clear g1 g2 HC
      go_wp2_with fail
      go_roundw
      case rel =>
        refine ⟨2 * q + bt, by go_num, ?_, (show ∃ (r B : Nat) (y : Cx), _ from ⟨r, 2 * B, y', by have := HN.out.2.2.1; omega, by have := HN.out.2.2.2.1; omega, by have := HN.out.2.2.2.2.1; omega, HN.out.1, HN.out.2.1, HG.out.1, HG.out.2⟩)⟩
        omega
      case measure => simp [intOf]; have := HN.out.2.2.1; have := HN.out.2.2.2.1; omega
    · have HF := (show Hid (R.1 = q ∧ Pr wr sb db gb s R.2 ∧ Keep (SD sb db) w wr) from by
        obtain ⟨r, B, y, b1, b2, b3, b4, b5, b6, b7⟩ := HQ.out
        have : r = 0 := by
          rcases r with _ | r
          · rfl
          · have : B * 2 ≤ B * 2 ^ (r + 1) := Nat.mul_le_mul_left _ (by rw [Nat.pow_succ]; have := Nat.one_le_two_pow (n := r); omega)
            omega
        subst this
        have e : R = (q, y) := b5.symm
        rw [e]
        exact ⟨rfl, b6, b7⟩)
      clear HQ
      have hltI : ¬ (q : Int) < (E : Int) := by omega
      have hs : (q : Int) - (E : Int) = ((q - E : Nat) : Int) := by omega
      go_wp2_with fail
      go_ret
      rw [HF.out.1]
      refine ⟨?_, by omega, hq, HF.out.2⟩
      go_num

end Go.Proofs.YtnokemcogjoonaaGreatDoor
