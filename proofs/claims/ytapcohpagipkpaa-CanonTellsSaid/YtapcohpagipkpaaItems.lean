/-
  Rows of items: pairs, leavesIn.
-/
import Derived.Test.YtapcohpagipkpaaOrder
import Derived.BigRegion
namespace Go.Proofs.Ytapcohpagipkpaa
open Go.RowKit Go.Shelf

/-- An item: its weight, and whether it is a leaf. -/
def itemCs (L : List (Nat × Bool)) : List Value := L.flatMap (fun p => [Value.int .u64 ((p.1 : Nat) : Int), Value.bool p.2])
theorem itemCs_length (L : List (Nat × Bool)) : (itemCs L).length = L.length * 2 := by
  induction L with
  | nil => rfl
  | cons p L ih => simp only [itemCs, List.flatMap_cons] at ih ⊢; rw [List.length_append, ih]; simp; omega
theorem itemCs_at (L : List (Nat × Bool)) (i : Nat) (hi : i < L.length) : (itemCs L)[2 * i]? = some (.int .u64 ((L[i].1 : Nat) : Int)) ∧ (itemCs L)[2 * i + 1]? = some (.bool L[i].2) := by
  induction L generalizing i with
  | nil => simp at hi
  | cons p L ih =>
    cases i with
    | zero => exact ⟨rfl, rfl⟩
    | succ i =>
      have := ih i (by simpa using hi)
      simp only [itemCs, List.flatMap_cons] at this ⊢
      rw [show 2 * (i + 1) = 2 * i + 2 from by omega]
      exact this
theorem itemCs_one (L : List (Nat × Bool)) : ∀ u ∈ itemCs L, u.oneCell' = true := by
  intro u hu
  simp only [itemCs, List.mem_flatMap] at hu
  obtain ⟨p, _, hp⟩ := hu
  simp at hp
  rcases hp with rfl | rfl <;> rfl
theorem itemCs_append (L M : List (Nat × Bool)) : itemCs (L ++ M) = itemCs L ++ itemCs M := by simp [itemCs]
theorem info86 : (Try.prog.info? 86).map (fun i => (i.zero, i.size, i.bytes)) = some (some (.agg #[.int .u64 0, .bool false]), 2, 16) := by kernel_rfl

/-- The slice at a reads as the items L, which lie in block g from cell off on. -/
structure Items (w : World) (a : Option Addr) (cap g off : Nat) (L : List (Nat × Bool)) : Prop where
  at_ : a = some (⟨g, off, none⟩ : Addr) ∨ L = []
  cells : ∀ i (hi : i < L.length), w.cell? ⟨g, off + i * 2, none⟩ = some (.int .u64 ((L[i].1 : Nat) : Int)) ∧ w.cell? ⟨g, off + i * 2 + 1, none⟩ = some (.bool L[i].2)
  le : L.length ≤ cap
  lt : L ≠ [] → g < w.heap.size
theorem Items.keep {w w' : World} {S : Nat → Prop} {a : Option Addr} {cap g off : Nat} {L : List (Nat × Bool)} (h : Items w a cap g off L) (hk : Keep S w w') (hS : L ≠ [] → ¬ S g) : Items w' a cap g off L :=
  ⟨h.at_, fun i hi => by
    have hne : L ≠ [] := by rintro rfl; simp at hi
    have hb := World.cell?_of_block (a := ⟨g, off + i * 2, none⟩) (hk.block g (h.lt hne) (hS hne))
    have hb2 := World.cell?_of_block (a := ⟨g, off + i * 2 + 1, none⟩) (hk.block g (h.lt hne) (hS hne))
    exact ⟨hb.trans (h.cells i hi).1, hb2.trans (h.cells i hi).2⟩, h.le, fun hne => Nat.lt_of_lt_of_le (h.lt hne) hk.size⟩

/-- How many of the items are leaves. -/
def leaves (L : List (Nat × Bool)) : Nat := L.countP (fun p => p.2)
theorem leaves_take (L : List (Nat × Bool)) (i : Nat) (hi : i < L.length) : leaves (L.take (i + 1)) = leaves (L.take i) + (if L[i].2 then 1 else 0) := by
  unfold leaves
  rw [List.take_add_one, List.countP_append, List.getElem?_eq_getElem hi]
  simp [List.countP_cons]

set_option maxRecDepth 100000 in
set_option maxHeartbeats 1000000 in
theorem leavesIn_any (a : Option Addr) (cap g off : Nat) (L : List (Nat × Bool)) (w : World) (h : Items w a cap g off L) (hl : L.length ≤ 4096) :
    Calls Try.prog 58 #[.slice a L.length cap] w fun e w' => e = .returned (.int .i64 ((leaves L : Nat) : Int)) ∧ Keep noBlock w w' := by
  have HI := (show Hid (Items w a cap g off L) from h)
  clear h
  go_enter Try.func58, Try.ntmps58
  go_wp2
  go_loopw [3, 8] (fun vn vi wr => ∃ i : Nat, vi = .int .i64 (i : Int) ∧ i ≤ L.length ∧ vn = .int .i64 ((leaves (L.take i) : Nat) : Int) ∧ Keep noBlock w wr) (fun _ vi _ => L.length - (intOf vi).toNat)
  case atStart => exact ⟨0, rfl, Nat.zero_le _, rfl, Keep.refl _ _⟩
  case round =>
    obtain ⟨i, rfl, hi, rfl, hk⟩ := hrel
    by_cases hlt : i < L.length
    · have hIw := HI.out.keep hk (fun _ h => h)
      obtain rfl : a = some ⟨g, off, none⟩ := by
        rcases hIw.at_ with h | h
        · exact h
        · rw [h] at hlt; simp at hlt
      obtain ⟨c1, c2⟩ := hIw.cells i hlt
      have hle : leaves (L.take i) ≤ 4096 := Nat.le_trans List.countP_le_length (by rw [List.length_take]; omega)
      have HL := (show Hid _ from leaves_take L i hlt)
      obtain ⟨x1, hx1⟩ : ∃ x, L[i].1 = x := ⟨_, rfl⟩
      obtain ⟨x2, hx2⟩ : ∃ x, L[i].2 = x := ⟨_, rfl⟩
      rw [hx1] at c1
      rw [hx2] at c2 HL
      generalize leaves (L.take i) = lv at hle HL ⊢
      clear hx1 hx2 hIw
      cases x2 with
      | true =>
        go_wp2
        go_roundw
        case rel => exact ⟨i + 1, by go_num, by omega, by rw [HL.out]; go_num, hk.alloc _⟩
        case measure => simp [intOf]; omega
      | false =>
        go_wp2
        go_roundw
        case rel => exact ⟨i + 1, by go_num, by omega, by rw [HL.out]; rfl, hk.alloc _⟩
        case measure => simp [intOf]; omega
    · obtain rfl : i = L.length := by omega
      rw [List.take_length]
      go_wp2
      go_ret
      exact ⟨rfl, hk⟩

/-- Two by two; an odd last one is left out. -/
def pairsL (L : List (Nat × Bool)) : List (Nat × Bool) := (List.range (L.length / 2)).map (fun i => ((L[2 * i]?.getD (0, false)).1 + (L[2 * i + 1]?.getD (0, false)).1, false))
theorem pairsL_length (L : List (Nat × Bool)) : (pairsL L).length = L.length / 2 := by simp [pairsL]

/-- A row of items that is one's own. -/
def OwnI (W : World) (base g cap : Nat) (L : List (Nat × Bool)) : Prop := W.ownsRow base 86 2 (.slice (some ⟨g, 0, none⟩) L.length cap) L.length (itemCs L)
theorem OwnI.items {W : World} {base g cap : Nat} {L : List (Nat × Bool)} (h : OwnI W base g cap L) : Items W (some ⟨g, 0, none⟩) cap g 0 L ∧ base ≤ g ∧ g < W.heap.size := by
  rcases h.2 with ⟨e, _⟩ | ⟨g', cap', cur, e, hb, hg, h1, h2, h3, h4⟩
  · cases e
  · simp only [Value.slice.injEq, Option.some.injEq, Addr.mk.injEq] at e
    obtain ⟨⟨rfl, _⟩, _, rfl⟩ := e
    refine ⟨⟨.inl rfl, fun i hi => ?_, h1, fun _ => obj_lt hg⟩, hb, obj_lt hg⟩
    obtain ⟨q1, q2⟩ := itemCs_at L i hi
    rw [← h4, List.getElem?_take, if_pos (by omega)] at q1 q2
    rw [Nat.zero_add, cell_of hg, cell_of hg, show i * 2 = 2 * i from by omega]
    exact ⟨by simpa using q1, by simpa using q2⟩

/-- What pairs has made when i pairs are done. -/
def pairsTo (L : List (Nat × Bool)) (i : Nat) : List (Nat × Bool) := (pairsL L).take i ++ List.replicate (L.length / 2 - i) (0, false)
theorem pairsTo_length (L : List (Nat × Bool)) (i : Nat) (h : i ≤ L.length / 2) : (pairsTo L i).length = L.length / 2 := by
  unfold pairsTo; rw [List.length_append, List.length_take, pairsL_length, List.length_replicate]; omega

set_option maxRecDepth 100000 in
set_option maxHeartbeats 2000000 in
theorem pairs_any (a : Option Addr) (cap g off : Nat) (L : List (Nat × Bool)) (w : World) (h : Items w a cap g off L) (hl : L.length ≤ 4096) (hw : ∀ p ∈ L, p.1 < 4611686018427387904) :
    Calls Try.prog 57 #[.slice a L.length cap] w fun e w' => ∃ g2, e = .returned (.slice (some ⟨g2, 0, none⟩) (pairsL L).length (L.length / 2)) ∧ Items w' (some ⟨g2, 0, none⟩) (L.length / 2) g2 0 (pairsL L) ∧ w.heap.size ≤ g2 ∧ g2 < w'.heap.size ∧ Keep noBlock w w' := by
  obtain ⟨i0, hi, hz0, hz1, hz2⟩ := info_parts info86
  obtain ⟨m, hm⟩ : ∃ m, m = L.length / 2 := ⟨_, rfl⟩
  have hmk : ∀ W : World, (Instr.makeSlice 84 (.int .i64 (m : Int)) (.int .i64 (m : Int))).run Try.prog W = .ok (.slice (some ⟨W.heap.size, 0, none⟩) m m) (W.alloc (.cells (madeCells #[.int .u64 0, .bool false] (m * 2)) 86)) := fun W => by
    have := run_make (P := Try.prog) W 84 86 i0 (.agg #[.int .u64 0, .bool false]) Try.underlying84 hi hz0 .i64 .i64 (m : Int) (m : Int) (by omega) (by omega) (by rw [hz2]; omega) (by omega)
    rw [hz1] at this
    simpa [Value.cells] using this
  have hdiv : (L.length : Int).tdiv 2 = (m : Int) := by rw [Int.tdiv_eq_ediv_of_nonneg (by omega)]; omega
  have hdiv' : (L.length : Int) / 2 = (m : Int) := by omega
  have HI := (show Hid (Items w a cap g off L ∧ ∀ p ∈ L, p.1 < 4611686018427387904) from ⟨h, hw⟩)
  have hnew := World.alloc_heap_new w (.cells (madeCells #[.int .u64 0, .bool false] (m * 2)) 86)
  have hk0 : Keep noBlock w (w.alloc (.cells (madeCells #[.int .u64 0, .bool false] (m * 2)) 86)) := (Keep.refl _ w).alloc _
  have H0 := (show Hid (_ ∧ _) from ⟨hnew, hk0⟩)
  have HM0 := (show Hid (m = L.length / 2) from hm)
  have hmb : m ≤ 2048 := by omega
  clear h hw hnew hk0 hm
  go_enter Try.func57, Try.ntmps57
  go_wp2
  generalize w.alloc (.cells (madeCells #[.int .u64 0, .bool false] (m * 2)) 86) = W0 at H0 ⊢
  obtain ⟨g2, hg2⟩ : ∃ g2, g2 = w.heap.size := ⟨_, rfl⟩
  rw [← hg2] at H0 ⊢
  have HM := (show Hid (m = L.length / 2 ∧ g2 = w.heap.size) from ⟨HM0.out, hg2⟩)
  clear hg2 hmk HM0
  go_loopw [11] (fun vi wr => ∃ (i : Nat) (cs : Array Value), vi = .int .i64 (i : Int) ∧ i ≤ m ∧ wr.heap[g2]? = some (.cells cs 86 (0, 0)) ∧ cs.size = m * 2 ∧ (∀ j, j < m → cs[j * 2]? = some (.int .u64 (((if j < i then ((pairsL L)[j]?.getD (0, false)).1 else 0 : Nat)) : Int)) ∧ cs[j * 2 + 1]? = some (.bool false)) ∧ Keep noBlock w wr) (fun vi _ => m - (intOf vi).toNat)
  case atStart =>
    refine ⟨0, _, rfl, Nat.zero_le _, H0.out.1, by simp [size_madeCells], fun j hj => ?_, H0.out.2⟩
    have e1 : j * 2 < m * 2 := by omega
    have e2 : j * 2 + 1 < m * 2 := by omega
    have e3 : j * 2 % 2 = 0 := by omega
    have e4 : (j * 2 + 1) % 2 = 1 := by omega
    simp [madeCells, e1, e2, e3, e4]
  case round =>
    clear H0
    obtain ⟨i, cs, rfl, him, ho, hsz, hcs, hk⟩ := hrel
    by_cases hlt : i < m
    · have hml := HM.out.1
      have hIw := HI.out.1.keep hk (fun _ h => h)
      obtain rfl : a = some ⟨g, off, none⟩ := by
        rcases hIw.at_ with h | h
        · exact h
        · rw [h] at hml; simp at hml; omega
      have l1 : 2 * i < L.length := by omega
      have l2 : 2 * i + 1 < L.length := by omega
      have c1 := (hIw.cells (2 * i) l1).1
      have c2 := (hIw.cells (2 * i + 1) l2).1
      have b1 := HI.out.2 L[2 * i] (List.getElem_mem l1)
      have b2 := HI.out.2 L[2 * i + 1] (List.getElem_mem l2)
      have c3 := (cell_of ho (i * 2)).trans (hcs i hlt).1
      rw [if_neg (Nat.lt_irrefl _)] at c3
      have z3 := frozen_of ho (i * 2)
      have hset := set_obj ho (i * 2) (.int .u64 ((L[2 * i].1 : Int) + (L[2 * i + 1].1 : Int)))
      have hgne : g ≠ g2 := by have := HI.out.1.lt (by rintro rfl; simp at l1); have := HM.out.2; omega
      have HS := (show Hid ((wr.setCell ⟨g2, i * 2, none⟩ (.int .u64 ((L[2 * i].1 : Int) + (L[2 * i + 1].1 : Int)))).heap[g2]? = some (.cells (cs.setIfInBounds (i * 2) (.int .u64 ((L[2 * i].1 : Int) + (L[2 * i + 1].1 : Int)))) 86 (0, 0)) ∧ Keep noBlock w (wr.setCell ⟨g2, i * 2, none⟩ (.int .u64 ((L[2 * i].1 : Int) + (L[2 * i + 1].1 : Int)))).drew ∧
        ∀ j, j < m → (cs.setIfInBounds (i * 2) (.int .u64 ((L[2 * i].1 : Int) + (L[2 * i + 1].1 : Int))))[j * 2]? = some (.int .u64 (((if j < i + 1 then ((pairsL L)[j]?.getD (0, false)).1 else 0 : Nat)) : Int)) ∧ (cs.setIfInBounds (i * 2) (.int .u64 ((L[2 * i].1 : Int) + (L[2 * i + 1].1 : Int))))[j * 2 + 1]? = some (.bool false)) from ⟨hset, (hk.setCell (p := ⟨g2, i * 2, none⟩) (fun h => by have := HM.out.2; dsimp only at h; omega) _).drew, fun j hj => by
          refine ⟨?_, (Array.getElem?_setIfInBounds ..).trans ((if_neg (by omega)).trans (hcs j hj).2)⟩
          rw [Array.getElem?_setIfInBounds]
          by_cases e : i = j
          · subst e
            rw [if_pos rfl, if_pos (by omega), if_pos (by omega)]
            have hp : (pairsL L)[i]?.getD (0, false) = (L[2 * i].1 + L[2 * i + 1].1, false) := by simp [pairsL, ← hml, hlt, l1, l2]
            rw [hp]
            congr 2
          · rw [if_neg (by omega)]
            have := (hcs j hj).1
            by_cases e2 : j < i
            · rw [if_pos e2] at this; rw [if_pos (by omega)]; exact this
            · rw [if_neg e2] at this; rw [if_neg (by omega)]; exact this⟩)
      generalize L[2 * i].1 = x1 at c1 b1 HS
      generalize L[2 * i + 1].1 = x2 at c2 b2 HS
      have i1 : (2 : Int) * (i : Int) < (L.length : Int) := by omega
      have i2 : (2 : Int) * (i : Int) + 1 < (L.length : Int) := by omega
      clear hset ho hcs hk hIw hml hdiv hdiv' him
      go_wp2_with fail
      go_big_region
      all_goals go_wp2
      go_roundw
      case rel => exact ⟨i + 1, _, by go_num, by omega, HS.out.1, by rw [Array.size_setIfInBounds]; exact hsz, HS.out.2.2, HS.out.2.1⟩
      case measure => simp [intOf]; omega
    · obtain rfl : i = m := by omega
      clear hdiv hdiv'
      go_wp2
      go_ret
      obtain ⟨q1, q2⟩ := HM.out
      have hpl := pairsL_length L
      rw [← q1] at hpl
      refine ⟨g2, by rw [hpl, ← q1]; rfl, ⟨.inl rfl, fun j hj => ?_, by rw [hpl, ← q1]; exact Nat.le_refl _, fun _ => obj_lt ho⟩, by omega, obj_lt ho, hk⟩
      have := hcs j (by omega)
      rw [if_pos (by omega), List.getElem?_eq_getElem hj] at this
      rw [Nat.zero_add, cell_of ho, cell_of ho]
      refine ⟨this.1, this.2.trans ?_⟩
      simp [pairsL]

end Go.Proofs.Ytapcohpagipkpaa
