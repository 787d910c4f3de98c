/-
  A state as it lies, with a decoder; a bit by one of its chances.
-/
import Derived.Test.YtinhlkioeadfdaaDoorLzx
namespace Go.Proofs.YtinhlkioeadfdaaDoor
open Go.RowKit Go.Shelf
set_option linter.unusedVariables false

/-- The cells of a state. -/
structure Cells (cs : Array Value) (s : Se) (c : Nat → Nat) : Prop where
  size : cs.size = 14143
  e0 : cs[0]? = some (.int .i64 (s.lc : Int))
  e1 : cs[1]? = some (.int .i64 (s.lp : Int))
  e2 : cs[2]? = some (.int .i64 (s.pb : Int))
  e3 : cs[3]? = some (.int .u8 (s.ph : Int))
  e4 : cs[4]? = some (.int .u32 (s.r0 : Int))
  e5 : cs[5]? = some (.int .u32 (s.r1 : Int))
  e6 : cs[6]? = some (.int .u32 (s.r2 : Int))
  e7 : cs[7]? = some (.int .u32 (s.r3 : Int))
  ch : ∀ i, 8 ≤ i → i < 14143 → cs[i]? = some (.int .u16 ((c i : Nat) : Int))
structure SeOk (s : Se) : Prop where
  lc : s.lc + s.lp ≤ 4
  pb : s.pb ≤ 4
  ph : s.ph < 12
  r0 : s.r0 < 4294967296
  r1 : s.r1 < 4294967296
  r2 : s.r2 < 4294967296
  r3 : s.r3 < 4294967296
/-- Block b is a state. -/
structure IsS (w : World) (b : Nat) (s : Se) (c : Nat → Nat) : Prop where
  obj : ∃ cs, w.heap[b]? = some (.cells cs 60 (0, 0)) ∧ Cells cs s c
  ok : SeOk s
  lt : ∀ i, c i < 65536
theorem IsS.keep {w w' : World} {S : Nat → Prop} {b : Nat} {s : Se} {c : Nat → Nat} (h : IsS w b s c) (hk : Keep S w w') (h1 : ¬ S b) : IsS w' b s c := by
  obtain ⟨cs, ho, hc⟩ := h.obj
  exact ⟨⟨cs, hk.obj ho h1, hc⟩, h.ok, h.lt⟩
theorem IsS.block {w : World} {b : Nat} {s : Se} {c : Nat → Nat} (h : IsS w b s c) : b < w.heap.size := by
  obtain ⟨cs, ho, hc⟩ := h.obj
  exact obj_lt ho
theorem IsS.ne {w : World} {b k : Nat} {s : Se} {c : Nat → Nat} {cs : Array Value} {t : TypeId} (h : IsS w b s c) (ho : w.heap[k]? = some (.cells cs t (0, 0))) (ht : t ≠ 60) : b ≠ k := by
  obtain ⟨cs', ho', hc⟩ := h.obj
  exact ne_of_type ho' ho (fun e => ht e.symm)
theorem Cells.put {cs : Array Value} {s : Se} {c : Nat → Nat} (h : Cells cs s c) (i x : Nat) (h8 : 8 ≤ i) : Cells (cs.setIfInBounds i (.int .u16 (x : Int))) s (putC c i x) := by
  have hs := h.size
  have far : ∀ k, k < 8 → (cs.setIfInBounds i (.int .u16 (x : Int)))[k]? = cs[k]? := fun k hk => by
    rw [Array.getElem?_setIfInBounds, if_neg (by omega)]
  refine ⟨by rw [Array.size_setIfInBounds]; exact hs, (far 0 (by omega)).trans h.e0, (far 1 (by omega)).trans h.e1, (far 2 (by omega)).trans h.e2, (far 3 (by omega)).trans h.e3, (far 4 (by omega)).trans h.e4, (far 5 (by omega)).trans h.e5, (far 6 (by omega)).trans h.e6, (far 7 (by omega)).trans h.e7, fun k k1 k2 => ?_⟩
  rw [Array.getElem?_setIfInBounds]
  unfold putC
  by_cases e : i = k
  · subst e
    rw [if_pos rfl, if_pos rfl, if_pos (by omega)]
  · rw [if_neg e, if_neg (fun q => e q.symm)]
    exact h.ch k k1 k2
/-- What lies in a state's first cells. -/
theorem IsS.first {w : World} {b : Nat} {s : Se} {c : Nat → Nat} (h : IsS w b s c) :
    w.cell? ⟨b, 0, none⟩ = some (.int .i64 (s.lc : Int)) ∧ w.cell? ⟨b, 1, none⟩ = some (.int .i64 (s.lp : Int)) ∧ w.cell? ⟨b, 2, none⟩ = some (.int .i64 (s.pb : Int)) ∧ w.cell? ⟨b, 3, none⟩ = some (.int .u8 (s.ph : Int)) ∧
    w.cell? ⟨b, 4, none⟩ = some (.int .u32 (s.r0 : Int)) ∧ w.cell? ⟨b, 5, none⟩ = some (.int .u32 (s.r1 : Int)) ∧ w.cell? ⟨b, 6, none⟩ = some (.int .u32 (s.r2 : Int)) ∧ w.cell? ⟨b, 7, none⟩ = some (.int .u32 (s.r3 : Int)) ∧
    ∀ i, w.frozen? ⟨b, i, none⟩ = false := by
  obtain ⟨cs, ho, hc⟩ := h.obj
  exact ⟨(cell_of ho 0).trans hc.e0, (cell_of ho 1).trans hc.e1, (cell_of ho 2).trans hc.e2, (cell_of ho 3).trans hc.e3, (cell_of ho 4).trans hc.e4, (cell_of ho 5).trans hc.e5, (cell_of ho 6).trans hc.e6, (cell_of ho 7).trans hc.e7, fun i => frozen_of ho i⟩
/-- A state and a decoder. -/
structure Pr (w : World) (sb db gb : Nat) (s : Se) (x : Cx) : Prop where
  st : IsS w sb s x.c
  de : IsD w db gb x.d
  ne : gb ≠ sb
/-- What reading may turn. -/
def SD (sb db k : Nat) : Prop := k = db ∨ k = sb
theorem Pr.keep {w w' : World} {S : Nat → Prop} {sb db gb : Nat} {s : Se} {x : Cx} (h : Pr w sb db gb s x) (hk : Keep S w w') (h1 : ¬ S sb) (h2 : ¬ S db) (h3 : ¬ S gb) : Pr w' sb db gb s x :=
  ⟨h.st.keep hk h1, h.de.keep hk h2 h3, h.ne⟩
theorem Pr.sd {w : World} {sb db gb : Nat} {s : Se} {x : Cx} (h : Pr w sb db gb s x) : sb ≠ db := by
  obtain ⟨a, cap, off, ho, hB⟩ := h.de.obj
  exact h.st.ne ho (by decide)
theorem Pr.same {w : World} {sb db gb : Nat} {s : Se} {x : Cx} (h : Pr w sb db gb s x) {W : World} (e1 : W.heap = w.heap) (e2 : W.os = w.os) (e3 : W.tape = w.tape) (e4 : W.output = w.output) : Pr W sb db gb s x :=
  h.keep (S := noBlock) ((Keep.refl _ w).same e1 e2 e3 e4) (fun h => h) (fun h => h) (fun h => h)
theorem bitI_N (b : Bool) : bitI b = ((bN b : Nat) : Int) := by cases b <;> rfl
theorem bit_any (sb db gb i : Nat) (s : Se) (x : Cx) (w : World) (h : Pr w sb db gb s x) (h8 : 8 ≤ i) (hi : i < 14143) :
    Calls Tryd.prog 34 #[.pointer (some ⟨db, 0, none⟩), .pointer (some ⟨sb, i, none⟩)] w fun e w' => e = .returned (.int .i64 ((bN (bitX x i) : Nat) : Int)) ∧ Pr w' sb db gb s (stepX x i) ∧ Keep (SD sb db) w w' := by
  obtain ⟨cs, ho, hc⟩ := h.st.obj
  refine (bitD_any db gb sb i (x.c i) 60 cs x.d w h.de h.sd ho (hc.ch i h8 hi) (h.st.lt i) h.ne).mono ?_
  rintro e w' ⟨rfl, h1, h2, h3⟩
  rw [bitI_N]
  refine ⟨rfl, ⟨⟨⟨_, h2, hc.put i _ h8⟩, h.st.ok, fun k => ?_⟩, h1, h.ne⟩, h3⟩
  show putC _ _ _ k < _
  unfold putC
  split
  · have := fairN_bd (x.c i)
    exact Nat.lt_of_le_of_lt (learnN_bd (bitX x i) this.1 this.2).2 (by decide)
  · exact h.st.lt k

end Go.Proofs.YtinhlkioeadfdaaDoor
