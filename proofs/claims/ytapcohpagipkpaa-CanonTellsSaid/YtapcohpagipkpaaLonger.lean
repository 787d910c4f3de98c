/-
  longer: how many leaves are taken on each level.
-/
import Derived.Test.YtapcohpagipkpaaMerge
namespace Go.Proofs.Ytapcohpagipkpaa
open Go.RowKit Go.Shelf

/-- The levels: all leaves, and the items of the level below two by two. -/
def levelL (lv : List (Nat × Bool)) : Nat → List (Nat × Bool)
  | 0 => lv.merge (pairsL []) leI
  | k + 1 => lv.merge (pairsL (levelL lv k)) leI
theorem levelL_length (lv : List (Nat × Bool)) (k : Nat) : (levelL lv k).length ≤ 2 * lv.length := by
  induction k with
  | zero => simp [levelL, List.length_merge, pairsL_length]; omega
  | succ k ih => simp only [levelL, List.length_merge, pairsL_length]; omega
theorem levelL_ge (lv : List (Nat × Bool)) (k : Nat) : lv.length ≤ (levelL lv k).length := by
  cases k with
  | zero => simp [levelL, List.length_merge]
  | succ k => simp [levelL, List.length_merge]
theorem pairsL_lt (L : List (Nat × Bool)) (b : Nat) (h : ∀ p ∈ L, p.1 < b) : ∀ p ∈ pairsL L, p.1 < 2 * b := by
  intro p hp
  simp only [pairsL, List.mem_map, List.mem_range] at hp
  obtain ⟨i, hi, rfl⟩ := hp
  have l1 : 2 * i < L.length := by omega
  have l2 : 2 * i + 1 < L.length := by omega
  have h1 := h L[2 * i] (List.getElem_mem l1)
  have h2 := h L[2 * i + 1] (List.getElem_mem l2)
  simp only [List.getElem?_eq_getElem l1, List.getElem?_eq_getElem l2, Option.getD_some]
  omega
theorem levelL_lt (lv : List (Nat × Bool)) (h : ∀ p ∈ lv, p.1 < 4294967296) (k : Nat) : ∀ p ∈ levelL lv k, p.1 < 4294967296 * 2 ^ k := by
  induction k with
  | zero =>
    intro p hp
    rw [levelL, List.mem_merge] at hp
    rcases hp with hp | hp
    · have := h p hp; omega
    · simp [pairsL] at hp
  | succ k ih =>
    intro p hp
    rw [levelL, List.mem_merge] at hp
    have h1 : 1 ≤ 2 ^ k := Nat.one_le_two_pow
    rcases hp with hp | hp
    · have := h p hp; rw [Nat.pow_succ]; omega
    · have := pairsL_lt _ _ ih p hp; rw [Nat.pow_succ]; omega
theorem levelL_lt' (lv : List (Nat × Bool)) (h : ∀ p ∈ lv, p.1 < 4294967296) (k : Nat) (hk : k ≤ 15) : ∀ p ∈ levelL lv k, p.1 < 4611686018427387904 := by
  intro p hp
  have h1 := levelL_lt lv h k p hp
  have h2 : 2 ^ k ≤ 2 ^ 15 := Nat.pow_le_pow_right (by omega) hk
  omega

/-- How many items are taken j levels below the uppermost one. -/
def itF (lv : List (Nat × Bool)) (most : Nat) : Nat → Nat
  | 0 => 2 * lv.length - 2
  | j + 1 => 2 * (itF lv most j - leaves ((levelL lv (most - 1 - j)).take (itF lv most j)))
/-- How many leaves are taken on level k. -/
def takenF (lv : List (Nat × Bool)) (most k : Nat) : Nat := leaves ((levelL lv k).take (itF lv most (most - 1 - k)))

theorem Items.take {w : World} {a : Option Addr} {cap g off : Nat} {L : List (Nat × Bool)} (h : Items w a cap g off L) (n : Nat) : Items w a cap g off (L.take n) := by
  refine ⟨h.at_.imp id (fun e => by rw [e]; simp), fun i hi => ?_, ?_, fun hne => h.lt (by rintro rfl; simp at hne)⟩
  · have hi' : i < L.length := by rw [List.length_take] at hi; omega
    rw [List.getElem_take]
    exact h.cells i hi'
  · rw [List.length_take]; have := h.le; omega

structure LS (lv : List (Nat × Bool)) (w W : World) (lvb most i : Nat) (G C : Nat → Nat) : Prop where
  cells : ∃ cs, W.heap[lvb]? = some (.cells cs 84 (0, 0)) ∧ cs.size = most ∧ ∀ k, k < i → cs[k]? = some (.slice (some ⟨G k, 0, none⟩) (levelL lv k).length (C k))
  items : ∀ k, k < i → Items W (some ⟨G k, 0, none⟩) (C k) (G k) 0 (levelL lv k) ∧ lvb < G k
  keep : Keep noBlock w W
theorem LS.kept {lv : List (Nat × Bool)} {w W W' : World} {lvb most i : Nat} {G C : Nat → Nat} (h : LS lv w W lvb most i G C) (hk : Keep noBlock W W') : LS lv w W' lvb most i G C := by
  obtain ⟨cs, h1, h2, h3⟩ := h.cells
  exact ⟨⟨cs, hk.obj h1 (fun h => h), h2, h3⟩, fun k hk' => ⟨(h.items k hk').1.keep hk (fun _ h => h), (h.items k hk').2⟩, h.keep.trans' hk⟩
theorem LS.put {lv : List (Nat × Bool)} {w W : World} {lvb most i g cap : Nat} {G C : Nat → Nat} (h : LS lv w W lvb most i G C) (hi : i < most) (hw : w.heap.size ≤ lvb) (hI : Items W (some ⟨g, 0, none⟩) cap g 0 (levelL lv i)) (hg : lvb < g) :
    LS lv w (W.setCell ⟨lvb, i, none⟩ (.slice (some ⟨g, 0, none⟩) (levelL lv i).length cap)) lvb most (i + 1) (fun k => if k = i then g else G k) (fun k => if k = i then cap else C k) := by
  obtain ⟨cs, h1, h2, h3⟩ := h.cells
  have hk : Keep (fun k => k = lvb) W (W.setCell ⟨lvb, i, none⟩ (.slice (some ⟨g, 0, none⟩) (levelL lv i).length cap)) := Keep.setCell (S := fun k => k = lvb) (p := ⟨lvb, i, none⟩) (Keep.refl _ W) (fun _ => rfl) _
  refine ⟨⟨_, set_obj h1 _ _, by rw [Array.size_setIfInBounds]; exact h2, fun k hk' => ?_⟩, fun k hk' => ?_, h.keep.setCell (fun hlt => by dsimp only at hlt; omega) _⟩
  · rw [Array.getElem?_setIfInBounds]
    by_cases e : i = k
    · subst e; rw [if_pos rfl, if_pos (by omega), if_pos rfl, if_pos rfl]
    · rw [if_neg e, if_neg (show ¬ k = i from fun x => e x.symm), if_neg (show ¬ k = i from fun x => e x.symm)]; exact h3 k (by omega)
  · by_cases e : k = i
    · rw [if_pos e, if_pos e, e]; exact ⟨hI.keep hk (fun _ => by omega), hg⟩
    · rw [if_neg e, if_neg e]
      obtain ⟨q1, q2⟩ := h.items k (by omega)
      exact ⟨q1.keep hk (fun _ => by omega), q2⟩

theorem info84 : (Try.prog.info? 84).map (fun i => (i.zero, i.size, i.bytes)) = some (some (.slice none 0 0), 1, 24) := by kernel_rfl

set_option maxRecDepth 100000 in
set_option maxHeartbeats 1000000 in
theorem longer_any (a : Addr) (ca ga oa most : Nat) (lv : List (Nat × Bool)) (w : World) (ha : Items w (some a) ca ga oa lv) (hl : lv.length ≤ 1024) (h2 : 2 ≤ lv.length) (hm0 : 1 ≤ most) (hm : most ≤ 15) (hlt : ∀ p ∈ lv, p.1 < 4294967296) (hfit : ∀ j, j < most → itF lv most j ≤ (levelL lv (most - 1 - j)).length) :
    Calls Try.prog 39 #[.slice (some a) lv.length ca, .int .i64 (most : Int)] w fun e w' => ∃ g, e = .returned (.slice (some ⟨g, 0, none⟩) most most) ∧ Row w' .i64 (some ⟨g, 0, none⟩) most g 0 ((List.range most).map (takenF lv most)) ∧ w.heap.size ≤ g ∧ g < w'.heap.size ∧ Keep noBlock w w' := by
  have hmk : ∀ W : World, (Instr.makeSlice 104 (.int .i64 (most : Int)) (.int .i64 (most : Int))).run Try.prog W = .ok (.slice (some ⟨W.heap.size, 0, none⟩) most most) (W.alloc (.cells (madeCells #[.slice none 0 0] most) 84)) := fun W =>
    run_make_row' 104 84 (.slice none 0 0) 24 Try.underlying104 info84 rfl .i64 .i64 most (by omega) (by omega) W
  have hmk2 : ∀ W : World, (Instr.makeSlice 23 (.int .i64 (most : Int)) (.int .i64 (most : Int))).run Try.prog W = .ok (.slice (some ⟨W.heap.size, 0, none⟩) most most) (W.alloc (.cells (madeCells #[.int .i64 0] most) 3)) := fun W =>
    run_make_row' 23 3 (.int .i64 0) 8 Try.underlying23 info3 rfl .i64 .i64 most (by omega) (by omega) W
  have hnew := World.alloc_heap_new w (.cells (madeCells #[.slice none 0 0] most) 84)
  have hls0 : LS lv w (w.alloc (.cells (madeCells #[.slice none 0 0] most) 84)) w.heap.size most 0 (fun _ => 0) (fun _ => 0) := ⟨⟨_, hnew, size_madeCells _ _, fun k hk => by omega⟩, fun k hk => by omega, (Keep.refl _ w).alloc _⟩
  have HA := (show Hid (Items w (some a) ca ga oa lv ∧ (∀ p ∈ lv, p.1 < 4294967296) ∧ ∀ j, j < most → itF lv most j ≤ (levelL lv (most - 1 - j)).length) from ⟨ha, hlt, hfit⟩)
  have H0 := (show Hid (LS lv w _ w.heap.size most 0 (fun _ => 0) (fun _ => 0)) from hls0)
  clear ha hlt hfit hls0 hnew
  go_enter Try.func39, Try.ntmps39
  go_wp2
  generalize w.alloc (.cells (madeCells #[.slice none 0 0] most) 84) = W0 at H0 ⊢
  obtain ⟨lvb, hlvb⟩ : ∃ lvb, lvb = w.heap.size := ⟨_, rfl⟩
  rw [← hlvb] at H0 ⊢
  have HB := (show Hid (lvb = w.heap.size) from hlvb)
  clear hlvb hmk
  go_loopw [6, 15] (fun vb vi wr => ∃ (i : Nat) (G C : Nat → Nat) (ab : Option Addr) (cb gb : Nat) (L : List (Nat × Bool)), vi = .int .i64 (i : Int) ∧ vb = .slice ab L.length cb ∧ i ≤ most ∧ LS lv w wr lvb most i G C ∧ Items wr ab cb gb 0 L ∧ Hid (levelL lv i = lv.merge (pairsL L) leI) ∧ L.length ≤ 2048 ∧ Hid (∀ p ∈ L, p.1 < 4611686018427387904)) (fun _ vi _ => most - (intOf vi).toNat)
  case atStart => exact ⟨0, _, _, none, 0, 0, [], rfl, rfl, by omega, H0.out, ⟨.inr rfl, fun i hi => by simp at hi, Nat.le_refl _, fun h => absurd rfl h⟩, rfl, by simp, fun p hp => by cases hp⟩
  case round =>
    clear H0
    obtain ⟨i, G, C, ab, cb, gb, L, rfl, rfl, him, hls, hIL, HE, hLl, HW⟩ := hrel
    by_cases hlt : i < most
    · have hll := levelL_length lv i
      have hpl := pairsL_length L
      have hlm : (levelL lv i).length = lv.length + (pairsL L).length := by rw [HE.out, List.length_merge]
      have hlp : lv.length + (pairsL L).length ≤ 4096 := by omega
      have HLM := (show Hid ((levelL lv i).length ≤ 2048) from (by omega : (levelL lv i).length ≤ 2048))
      clear hlm hpl hll
      go_wp2_with fail
      refine (pairs_any ab cb gb 0 L wr hIL (by omega) HW.out).mono ?_
      rintro e w1 ⟨g2, rfl, hI2, hg1, hg2, hk1⟩
      have hA1 := HA.out.1.keep (hls.keep.trans' hk1) (fun _ h => h)
      have hls1 := hls.kept hk1
      have HP := (show Hid (LS lv w w1 lvb most i G C) from hls1)
      have hw1 : lvb < wr.heap.size := by obtain ⟨cs, ho, _⟩ := hls.cells; exact obj_lt ho
      clear hls hIL hls1
      go_wp2_with fail
      refine (merge_any a ⟨g2, 0, none⟩ ca (L.length / 2) ga g2 oa 0 lv (pairsL L) w1 hA1 hI2 hlp).mono ?_
      rintro e w2 ⟨g3, cap3, rfl, hI3, hg3, hg4, hk2⟩
      rw [← HE.out] at hI3 ⊢
      have hs1 := hk1.size
      have hls2 := HP.out.kept hk2
      have hput := hls2.put hlt (by rw [HB.out]; exact Nat.le_refl _) hI3 (by omega)
      obtain ⟨cs2, ho2, hz2, _⟩ := hls2.cells
      have hcell : ∃ v, w2.cell? ⟨lvb, i, none⟩ = some v := ⟨cs2[i]'(by omega), by rw [cell_of ho2, Array.getElem?_eq_getElem (by omega)]⟩
      obtain ⟨v0, hv0⟩ := hcell
      have hf0 := frozen_of ho2 i
      have hgI : (i : Int) < (most : Int) := by omega
      obtain ⟨ln, hln⟩ : ∃ ln, ln = (levelL lv i).length := ⟨_, rfl⟩
      rw [← hln] at hput ⊢
      have HPUT := (show Hid (LS lv w _ lvb most (i + 1) _ _ ∧ Items w2 (some ⟨g3, 0, none⟩) cap3 g3 0 (levelL lv i) ∧ ln = (levelL lv i).length ∧ ln ≤ 2048) from ⟨hput, hI3, hln, by rw [hln]; exact HLM.out⟩)
      clear hput hI3 hls2 ho2 hz2 hI2 hA1 hk1 hk2 hln
      go_wp2
      go_roundw
      case rel =>
        obtain ⟨q1, q2, q3, q4⟩ := HPUT.out
        have hk : Keep (fun k => k = lvb) w2 (w2.setCell ⟨lvb, i, none⟩ (.slice (some ⟨g3, 0, none⟩) ln cap3)) := Keep.setCell (S := fun k => k = lvb) (p := ⟨lvb, i, none⟩) (Keep.refl _ w2) (fun _ => rfl) _
        exact ⟨i + 1, _, _, some ⟨g3, 0, none⟩, cap3, g3, levelL lv i, by go_num, by rw [q3], by omega, q1, q2.keep hk (fun _ => by omega), rfl, by omega, levelL_lt' lv HA.out.2.1 i (by omega)⟩
      case measure => simp [intOf]; omega
    · obtain rfl : i = most := by omega
      have hnt := World.alloc_heap_new wr (.cells (madeCells #[.int .i64 0] i) 3)
      have hlst := hls.kept ((Keep.refl noBlock wr).alloc (.cells (madeCells #[.int .i64 0] i) 3))
      have hsz := hls.keep.size
      obtain ⟨tb, htb⟩ : ∃ tb, tb = wr.heap.size := ⟨_, rfl⟩
      have htl : lvb < tb := by obtain ⟨cs, ho, _⟩ := hls.cells; rw [htb]; exact obj_lt ho
      have H1 := (show Hid ((wr.alloc (.cells (madeCells #[.int .i64 0] i) 3)).heap[tb]? = some (.cells (madeCells #[.int .i64 0] i) 3 (0, 0)) ∧ LS lv w (wr.alloc (.cells (madeCells #[.int .i64 0] i) 3)) lvb i i G C) from ⟨by rw [htb]; exact hnt, hlst⟩)
      have HT := (show Hid (lvb < tb ∧ w.heap.size ≤ tb ∧ ∀ k, k < i → G k < tb) from ⟨htl, by omega, fun k hk => by rw [htb]; exact (hls.items k hk).1.lt (fun e => by have := levelL_ge lv k; rw [e, List.length_nil] at this; omega)⟩)
      clear hnt hlst hIL HE HW hls htl
      go_wp2
      rw [← htb]
      clear htb hmk2
      generalize wr.alloc (.cells (madeCells #[.int .i64 0] i) 3) = W1 at H1 ⊢
      go_loopw [9, 10] (fun vt vk wr => ∃ (j kk : Nat) (cs : Array Value), vt = .int .i64 ((itF lv i j : Nat) : Int) ∧ vk = .int .i64 ((kk : Int) - 1) ∧ kk + j = i ∧ LS lv w wr lvb i i G C ∧ wr.heap[tb]? = some (.cells cs 3 (0, 0)) ∧ cs.size = i ∧ ∀ k, k < i → cs[k]? = some (.int .i64 (((if kk ≤ k then takenF lv i k else 0 : Nat)) : Int))) (fun _ vk _ => (intOf vk + 1).toNat)
      case atStart =>
        refine ⟨0, i, _, ?_, rfl, rfl, H1.out.2, H1.out.1, size_madeCells _ _, fun k hk => ?_⟩
        · show _ = Value.int .i64 ((2 * lv.length - 2 : Nat) : Int)
          congr 1; omega
        · rw [if_neg (by omega)]; simp [madeCells, hk, Nat.mod_one]
      case round =>
        clear H1
        obtain ⟨j, kk, cs, rfl, rfl, hkj, hls, hot, hsz2, hcs⟩ := hrel
        cases kk with
        | zero =>
          rw [show ((0 : Nat) : Int) - 1 = (-1 : Int) from rfl]
          go_wp2
          go_ret
          refine ⟨tb, rfl, ⟨.inl rfl, fun k hk => ?_, by simp⟩, HT.out.2.1, obj_lt hot, hls.keep⟩
          have hk' : k < i := by simpa using hk
          rw [Nat.zero_add, cell_of hot, hcs k hk', if_pos (Nat.zero_le _)]
          simp [hk']
        | succ k =>
          have hki : k < i := by omega
          rw [show ((k + 1 : Nat) : Int) - 1 = (k : Int) from by omega]
          obtain ⟨hI, hGk⟩ := hls.items k hki
          obtain ⟨csl, hol, _, hcl⟩ := hls.cells
          have hft := HA.out.2.2 j (by omega)
          rw [show i - 1 - j = k from by omega] at hft
          have c1 := (cell_of hol k).trans (hcl k hki)
          have c2 : wr.cell? ⟨tb, k, none⟩ = _ := (cell_of hot k).trans (hcs k hki)
          have f2 := frozen_of hot k
          have hIt := hI.take (itF lv i j)
          have htl : ((levelL lv k).take (itF lv i j)).length = itF lv i j := by rw [List.length_take]; omega
          have hll := levelL_length lv k
          have hle := hI.le
          have hlv := leavesIn_any (some ⟨G k, 0, none⟩) (C k) (G k) 0 ((levelL lv k).take (itF lv i j)) wr hIt (by omega)
          rw [htl] at hlv
          have hlle : leaves ((levelL lv k).take (itF lv i j)) ≤ itF lv i j := by
            have : leaves ((levelL lv k).take (itF lv i j)) ≤ _ := List.countP_le_length
            omega
          have htk : takenF lv i k = leaves ((levelL lv k).take (itF lv i j)) := by unfold takenF; rw [show i - 1 - k = j from by omega]
          have hnx : itF lv i (j + 1) = 2 * (itF lv i j - leaves ((levelL lv k).take (itF lv i j))) := by rw [itF, show i - 1 - j = k from by omega]
          rw [← htk] at hlv hlle hnx
          have HV := (show Hid (∀ u : Unit, Calls Try.prog 58 _ wr _) from fun _ => hlv)
          have HX := (show Hid (itF lv i (j + 1) = 2 * (itF lv i j - takenF lv i k)) from hnx)
          obtain ⟨t, ht⟩ : ∃ t, t = takenF lv i k := ⟨_, rfl⟩
          rw [← ht] at hlle
          obtain ⟨it, hit⟩ : ∃ it, it = itF lv i j := ⟨_, rfl⟩
          rw [← hit] at hlle hft ⊢
          obtain ⟨ln, hln⟩ : ∃ ln, ln = (levelL lv k).length := ⟨_, rfl⟩
          rw [← hln] at c1 hft hle hll
          have hb1 : it ≤ 2048 := by omega
          have hI1 : (it : Int) ≤ (C k : Int) := by omega
          have HS := (show Hid (t = takenF lv i k ∧ it = itF lv i j ∧ LS lv w wr lvb i i G C ∧ wr.heap[tb]? = some (.cells cs 3 (0, 0)) ∧ ∀ k2, k2 < i → cs[k2]? = some (.int .i64 (((if k + 1 ≤ k2 then takenF lv i k2 else 0 : Nat)) : Int))) from ⟨ht, hit, hls, hot, hcs⟩)
          clear ht hit hlv htk hnx htl hIt hI hol hcl hls hot hcs hln
          go_wp2_with fail
          have hv := HV.out ()
          rw [← HS.out.2.1, ← HS.out.1] at hv
          refine hv.mono ?_
          rintro e w1 ⟨rfl, hk1⟩
          obtain ⟨q1, q2, q3, q4, q5⟩ := HS.out
          have hot1 := hk1.obj q4 (fun h => h)
          have c3 := (cell_of hot1 k).trans (q5 k hki)
          rw [if_neg (by omega)] at c3
          have f3 := frozen_of hot1 k
          have hset := set_obj hot1 k (.int .i64 (t : Int))
          have hls1 := q3.kept hk1
          have hks : Keep (fun x => x = tb) w1 (w1.setCell ⟨tb, k, none⟩ (.int .i64 (t : Int))) := Keep.setCell (S := fun x => x = tb) (p := ⟨tb, k, none⟩) (Keep.refl _ w1) (fun _ => rfl) _
          have hne : ∀ k, k < i → G k ≠ tb := fun k hk => by have := HT.out.2.2 k hk; omega
          have HR := (show Hid (LS lv w (w1.setCell ⟨tb, k, none⟩ (.int .i64 (t : Int))) lvb i i G C ∧ (w1.setCell ⟨tb, k, none⟩ (.int .i64 (t : Int))).heap[tb]? = some (.cells (cs.setIfInBounds k (.int .i64 (t : Int))) 3 (0, 0)) ∧ (∀ k2, k2 < i → (cs.setIfInBounds k (.int .i64 (t : Int)))[k2]? = some (.int .i64 (((if k ≤ k2 then takenF lv i k2 else 0 : Nat)) : Int)))) from ⟨by
              obtain ⟨csl, r1, r2, r3⟩ := hls1.cells
              exact ⟨⟨csl, hks.obj r1 (by have := HT.out.1; omega), r2, r3⟩, fun k2 hk2 => ⟨(hls1.items k2 hk2).1.keep hks (fun _ => hne k2 hk2), (hls1.items k2 hk2).2⟩, hls1.keep.setCell (p := ⟨tb, k, none⟩) (fun h => by have := HT.out.2.1; dsimp only at h; omega) _⟩, hset, fun k2 hk2 => by
              rw [Array.getElem?_setIfInBounds]
              by_cases e : k = k2
              · subst e; rw [if_pos rfl, if_pos (by omega), if_pos (Nat.le_refl _), q1]
              · rw [if_neg e, q5 k2 hk2]
                by_cases e2 : k + 1 ≤ k2
                · rw [if_pos e2, if_pos (by omega)]
                · rw [if_neg e2, if_neg (by omega)]⟩)
          clear hset hls1 hks hot1 q1 q2 q3 q4 q5 c2 f2 c1 hk1
          go_wp2
          go_roundw
          case rel => exact ⟨j + 1, k, _, by rw [HX.out, ← HS.out.1, ← HS.out.2.1]; congr 1; omega, by rfl, by omega, HR.out.1, HR.out.2.1, by rw [Array.size_setIfInBounds]; exact hsz2, HR.out.2.2⟩
          case measure => simp [intOf]

end Go.Proofs.Ytapcohpagipkpaa
