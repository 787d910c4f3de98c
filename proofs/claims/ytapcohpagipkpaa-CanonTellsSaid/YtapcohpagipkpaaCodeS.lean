/-
  What Codes has made of its words when the words of some lengths are given.
-/
import Derived.Test.YtapcohpagipkpaaLaw
import Derived.Test.YtapcohpagipkpaaCode
namespace Go.Proofs.Ytapcohpagipkpaa
open Go.RowKit Go.Shelf

/-- The words of all lengths below k, and of the first j of length k. -/
def codeTo (xs : List Nat) (k j s : Nat) : Nat := if numOf xs s ≠ 0 ∧ (numOf xs s < k ∨ (numOf xs s = k ∧ rank xs s < j)) then wordN xs s % 65536 else 0
theorem codeTo_next (xs : List Nat) (k s : Nat) (hs : s < xs.length) : codeTo xs (k + 1) 0 s = codeTo xs k (many xs k) s := by
  unfold codeTo
  have hr := rank_lt xs s hs
  rw [symsOf_length] at hr
  by_cases h0 : numOf xs s = 0
  · rw [if_neg (by omega), if_neg (by omega)]
  · by_cases h1 : numOf xs s < k
    · rw [if_pos ⟨h0, .inl (by omega)⟩, if_pos ⟨h0, .inl h1⟩]
    · by_cases h2 : numOf xs s = k
      · have hm : many xs k = xs.count (numOf xs s) := by unfold many; rw [if_neg (by omega), h2]
        rw [if_pos ⟨h0, .inl (by omega)⟩, if_pos ⟨h0, .inr ⟨h2, by omega⟩⟩]
      · rw [if_neg (by omega), if_neg (by omega)]
theorem codeTo_step (xs : List Nat) (k j s : Nat) (hk : k ≠ 0) (hj : j < (symsOf xs k).length) (hs : s < xs.length) :
    codeTo xs k (j + 1) s = if s = (symsOf xs k)[j] then (nextF (many xs) k + j) % 65536 else codeTo xs k j s := by
  obtain ⟨r1, r2, r3⟩ := rank_of xs k j hj
  by_cases e : s = (symsOf xs k)[j]
  · rw [if_pos e]
    unfold codeTo
    rw [e, if_pos ⟨by omega, .inr ⟨r1, by omega⟩⟩]
    unfold wordN
    rw [if_neg (by omega), r1, r3]
  · rw [if_neg e]
    unfold codeTo
    by_cases h : numOf xs s ≠ 0 ∧ (numOf xs s < k ∨ (numOf xs s = k ∧ rank xs s < j))
    · rw [if_pos h, if_pos ⟨h.1, h.2.imp id (fun x => ⟨x.1, by omega⟩)⟩]
    · rw [if_neg h, if_neg (fun x => ?_)]
      rcases x.2 with y | y
      · exact h ⟨x.1, .inl y⟩
      · by_cases z : rank xs s = j
        · have := symsOf_rank xs s hs
          rw [y.1, z, List.getElem?_eq_getElem hj] at this
          exact e (Option.some.inj this).symm
        · exact h ⟨x.1, .inr ⟨y.1, by omega⟩⟩
theorem codeTo_all (xs : List Nat) (h15 : ∀ x ∈ xs, x ≤ 15) (s : Nat) (hs : s < xs.length) : codeTo xs 16 0 s = wordN xs s % 65536 := by
  unfold codeTo
  have hx := h15 (numOf xs s) (by unfold numOf; rw [List.getElem?_eq_getElem hs]; exact List.getElem_mem hs)
  by_cases h0 : numOf xs s = 0
  · rw [if_neg (by omega)]; unfold wordN; rw [if_pos h0]
  · rw [if_pos ⟨h0, .inl (by omega)⟩]
theorem codeTo_zero (xs : List Nat) (s : Nat) : codeTo xs 0 0 s = 0 := by unfold codeTo; rw [if_neg (by omega)]

/-- Codes under way. -/
structure CS (xs P : List Nat) (w W : World) (mb g cap sbx k j : Nat) : Prop where
  codes : ∃ cs, W.heap[mb + 1]? = some (.cells cs 51 (0, 0)) ∧ ∀ s, s < xs.length → cs[s]? = some (.int .u16 ((codeTo xs k j s : Nat) : Int))
  cbox : W.heap[mb + 1 + 1]? = some (.cells #[.slice (some ⟨mb + 1, 0, none⟩) xs.length xs.length] 24 (0, 0))
  sbox : ∃ sa, (offF xs k < P.length → sa = some (⟨g, offF xs k, none⟩ : Addr)) ∧ W.heap[sbx]? = some (.cells #[.slice sa (P.length - offF xs k) (cap - offF xs k)] 23 (0, 0))
  row : Row W .i64 (some ⟨g, 0, none⟩) cap g 0 P
  keep : Keep noBlock w W

theorem own_obj {W W' : World} {row : Option Nat} {b : Nat} {o : Obj} (hg : W.grownBy W' row) (hr : ∀ r, row = some r → ∃ o : Obj, W.heap[r]? = some o ∧ o.isCells = false) (h : W.heap[b]? = some o) (hc : o.isCells = true) : W'.heap[b]? = some o := by
  refine (hg.block b (obj_lt h) (fun e => ?_)).trans h
  obtain ⟨o', ho', hc'⟩ := hr b e.symm
  rw [h] at ho'
  cases ho'
  rw [hc] at hc'
  cases hc'
theorem own_cell {W W' : World} {row : Option Nat} {p : Addr} {v : Value} (hg : W.grownBy W' row) (hr : ∀ r, row = some r → ∃ o : Obj, W.heap[r]? = some o ∧ o.isCells = false) (h : W.cell? p = some v) : W'.cell? p = some v := by
  refine (World.cell?_of_block (hg.block p.block (World.block_lt_of_cell? W p h) (fun e => ?_))).trans h
  obtain ⟨o', ho', hc'⟩ := hr p.block e.symm
  cases o' with
  | cells cs t fz => cases hc'
  | _ => simp [World.cell?, ho'] at h
theorem own_row {W W' : World} {row : Option Nat} {k : IntKind} {a : Option Addr} {cap gb off : Nat} {xs : List Nat} (hg : W.grownBy W' row) (hr : ∀ r, row = some r → ∃ o : Obj, W.heap[r]? = some o ∧ o.isCells = false) (h : Row W k a cap gb off xs) : Row W' k a cap gb off xs :=
  ⟨h.at_, fun j hj => own_cell hg hr (h.cells j hj), h.le⟩
theorem CS.own {xs P : List Nat} {w W W' : World} {row : Option Nat} {mb g cap sbx k j B : Nat} (h : CS xs P w W mb g cap sbx k j) (hB : w.heap.size ≤ B) (hg : W.grownBy W' row) (hr : ∀ r, row = some r → B ≤ r ∧ ∃ o : Obj, W.heap[r]? = some o ∧ o.isCells = false) : CS xs P w W' mb g cap sbx k j := by
  have hr' : ∀ r, row = some r → ∃ o : Obj, W.heap[r]? = some o ∧ o.isCells = false := fun r e => (hr r e).2
  obtain ⟨cs, h1, h2⟩ := h.codes
  obtain ⟨sa, h3, h4⟩ := h.sbox
  exact ⟨⟨cs, own_obj hg hr' h1 rfl, h2⟩, own_obj hg hr' h.cbox rfl, ⟨sa, h3, own_obj hg hr' h4 rfl⟩, own_row hg hr' h.row, h.keep.grown hg (fun k e hk => by have := (hr k e).1; omega)⟩
theorem CS.alloc {xs P : List Nat} {w W : World} {mb g cap sbx k j : Nat} (h : CS xs P w W mb g cap sbx k j) (o : Obj) : CS xs P w (W.alloc o) mb g cap sbx k j :=
  h.own (Nat.le_refl _) (World.grownBy_alloc W o none) (fun r e => by cases e)
theorem CS.skip {xs P : List Nat} {w W : World} {mb g cap sbx k : Nat} (h : CS xs P w W mb g cap sbx k (many xs k)) (h0 : many xs k = 0) : CS xs P w W mb g cap sbx (k + 1) 0 := by
  obtain ⟨cs, h1, h2⟩ := h.codes
  obtain ⟨sa, h3, h4⟩ := h.sbox
  have e : offF xs (k + 1) = offF xs k := by simp [offF, h0]
  exact ⟨⟨cs, h1, fun s hs => by rw [h2 s hs, codeTo_next xs k s hs]⟩, h.cbox, ⟨sa, by rw [e]; exact h3, by rw [e]; exact h4⟩, h.row, h.keep⟩
/-- A word is given. -/
theorem CS.step {xs P : List Nat} {w W : World} {mb g cap sbx k j : Nat} (h : CS xs P w W mb g cap sbx k j) (hk : k ≠ 0) (hj : j < (symsOf xs k).length) (hm1 : w.heap.size ≤ mb) (hm2 : mb + 1 < g) (hm3 : mb + 1 < sbx) :
    CS xs P w (W.setCell ⟨mb + 1, (symsOf xs k)[j], none⟩ (.int .u16 (((nextF (many xs) k + j) % 65536 : Nat) : Int))) mb g cap sbx k (j + 1) := by
  obtain ⟨cs, h1, h2⟩ := h.codes
  obtain ⟨sa, h3, h4⟩ := h.sbox
  refine ⟨⟨_, set_obj h1 _ _, fun s hs => ?_⟩, set_far h.cbox (by omega) _ _, ⟨sa, h3, set_far h4 (by omega) _ _⟩, ⟨h.row.at_, fun i hi => ?_, h.row.le⟩, h.keep.setCell (fun hlt => by dsimp only at hlt; omega) _⟩
  · rw [Array.getElem?_setIfInBounds, codeTo_step xs k j s hk hj hs]
    have hlt : s < cs.size := (Array.getElem?_eq_some_iff.1 (h2 s hs)).1
    by_cases e : (symsOf xs k)[j] = s
    · rw [if_pos e, if_pos (by rw [e]; exact hlt), if_pos e.symm]
    · rw [if_neg e, if_neg (fun x => e x.symm)]; exact h2 s hs
  · exact (World.cell?_of_block (Below.heap_setCell _ _ _ _ (by dsimp only; omega))).trans (h.row.cells i hi)

/-- The symbols whose words are given are let go. -/
theorem CS.drop {xs P : List Nat} {w W : World} {mb g cap sbx k : Nat} (h : CS xs P w W mb g cap sbx k (many xs k)) (hm1 : w.heap.size ≤ sbx) (hm2 : mb + 1 + 1 < sbx) (hm3 : g < sbx) (sa : Option Addr) (n c : Nat) (hsa : offF xs (k + 1) < P.length → sa = some ⟨g, offF xs (k + 1), none⟩)
    (hn : n = P.length - offF xs (k + 1)) (hc : c = cap - offF xs (k + 1)) : CS xs P w (W.setCell ⟨sbx, 0, none⟩ (.slice sa n c)) mb g cap sbx (k + 1) 0 := by
  obtain ⟨cs, h1, h2⟩ := h.codes
  obtain ⟨sa0, h3, h4⟩ := h.sbox
  refine ⟨⟨cs, set_far h1 (by omega) _ _, fun s hs => by rw [h2 s hs, codeTo_next xs k s hs]⟩, set_far h.cbox (by omega) _ _, ⟨sa, hsa, (set_obj h4 0 _).trans (by rw [hn, hc]; simp)⟩, ⟨h.row.at_, fun i hi => ?_, h.row.le⟩, h.keep.setCell (fun hlt => by dsimp only at hlt; omega) _⟩
  exact (World.cell?_of_block (Below.heap_setCell _ _ _ _ (by dsimp only; omega))).trans (h.row.cells i hi)

end Go.Proofs.Ytapcohpagipkpaa
