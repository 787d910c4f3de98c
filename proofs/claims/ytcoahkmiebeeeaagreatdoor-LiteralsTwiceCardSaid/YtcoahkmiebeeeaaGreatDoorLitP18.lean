/-
  The words of a code, as numbers. No program is named here.
  What Codes has made of its words when the words of some lengths are given.
  Codes: the words of lengths that make a code.
  Limit.
  The statements' own helpers: same, sum, and what the document says of four lengths.
  The lengths that packing and merging gives: they make a code, and their sum is what the uppermost level weighs. No program is named here.
  weightsOf.
-/
import Derived.Test.YtcoahkmiebeeeaaGreatDoorLitP14
import Derived.Test.YtcoahkmiebeeeaaGreatDoorLitP15
import Derived.Test.YtcoahkmiebeeeaaGreatDoorLitP17
namespace Go.Proofs.YtcoahkmiebeeeaaGreatDoor.C5

end Go.Proofs.YtcoahkmiebeeeaaGreatDoor.C5

namespace Go.Proofs.YtcoahkmiebeeeaaGreatDoor.C5
open Go.RowKit Go.Shelf

theorem own_obj {W W' : World} {row : Option Nat} {b : Nat} {o : Obj} (hg : W.grownBy W' row) (hr : ∀ r, row = some r → ∃ o : Obj, W.heap[r]? = some o ∧ o.isCells = false) (h : W.heap[b]? = some o) (hc : o.isCells = true) : W'.heap[b]? = some o := by
  refine (hg.block b (obj_lt h) (fun e => ?_)).trans h
  obtain ⟨o', ho', hc'⟩ := hr b e.symm
  rw [h] at ho'
  cases ho'
  rw [hc] at hc'
  cases hc'

end Go.Proofs.YtcoahkmiebeeeaaGreatDoor.C5

namespace Go.Proofs.YtcoahkmiebeeeaaGreatDoor.C5
open Go.RowKit Go.Shelf

attribute [local go_sem] Oper.semAt_some

end Go.Proofs.YtcoahkmiebeeeaaGreatDoor.C5

namespace Go.Proofs.YtcoahkmiebeeeaaGreatDoor.C5
open Go.RowKit Go.Shelf

set_option maxRecDepth 100000 in
set_option maxHeartbeats 1000000 in
theorem limit_few (a : Option Addr) (cap gb off most : Nat) (xs : List Nat) (w : World) (hR : Row w .u32 a cap gb off xs) (hl : xs.length ≤ 1024) (hm0 : 1 ≤ most) (hm : most ≤ 15) (hbad : ¬ (2 ≤ (placesTo (numOf xs) xs.length).length ∧ (placesTo (numOf xs) xs.length).length ≤ 2 ^ most)) :
    Calls Tryz.prog 45 #[.slice a xs.length cap, .int .i64 (most : Int)] w fun e w' => e = .returned (.tuple #[.slice none 0 0, .int .i64 2]) ∧ Keep noBlock w w' := by
  have g1 : ¬ (1024 : Int) < (xs.length : Int) := by omega
  have g2 : ¬ (most : Int) < 1 := by omega
  have g3 : ¬ (15 : Int) < (most : Int) := by omega
  obtain ⟨z, hz⟩ : ∃ z, z = 2 ^ most := ⟨_, rfl⟩
  have hzI : (2 : Int) ^ most = (z : Int) := by rw [hz]; simp
  have hzb : z ≤ 32768 := by rw [hz]; exact Nat.le_trans (Nat.pow_le_pow_right (by omega) hm) (by decide)
  rw [← hz] at hbad
  have hC := order32_any a cap gb off xs w hR hl
  have HC := (show Hid (∀ u : Unit, Calls Tryz.prog 64 _ w _) from fun _ => hC)
  have HB := (show Hid (¬ (2 ≤ (placesTo (numOf xs) xs.length).length ∧ (placesTo (numOf xs) xs.length).length ≤ z)) from hbad)
  clear hC hR hz hbad
  go_enter Tryz.func45, Tryz.ntmps45
  go_wp2_with fail
  refine (HC.out ()).mono ?_
  rintro e w1 ⟨g, cap', P, rfl, hg1, hg2, hRP, hO, hk⟩
  have hb := HB.out
  have hlen := hO.len
  have hb2 : ¬ (2 ≤ P.length ∧ P.length ≤ z) := by rw [hlen]; exact hb
  clear hb hlen hRP hO HC HB
  by_cases h2 : P.length < 2
  · have h2I : (P.length : Int) < 2 := by omega
    go_wp2
    go_ret2
    exact ⟨rfl, hk⟩
  · have h2I : ¬ (P.length : Int) < 2 := by omega
    have h3I : (z : Int) < (P.length : Int) := by omega
    clear hb2
    go_wp2
    go_ret2
    exact ⟨rfl, hk⟩

theorem info5' : (Tryz.prog.info? 5).map (fun i => (i.zero, i.size, i.bytes)) = some (some (.int .u8 0), 1, 1) := info5

set_option maxRecDepth 100000 in
set_option maxHeartbeats 4000000 in
theorem limit_good (a : Option Addr) (cap gb off most : Nat) (xs : List Nat) (w : World) (hR : Row w .u32 a cap gb off xs) (hx : ∀ i, numOf xs i < 4294967296) (hl : xs.length ≤ 1024) (hm0 : 1 ≤ most) (hm : most ≤ 15) (hgood : 2 ≤ (placesTo (numOf xs) xs.length).length ∧ (placesTo (numOf xs) xs.length).length ≤ 2 ^ most) :
    Calls Tryz.prog 45 #[.slice a xs.length cap, .int .i64 (most : Int)] w fun e w' => ∃ lb P, e = .returned (.tuple #[.slice (some ⟨lb, 0, none⟩) xs.length xs.length, .int .i64 0]) ∧ IsOrder (numOf xs) xs.length P ∧ Row w' .u8 (some ⟨lb, 0, none⟩) xs.length lb 0 (limitL xs P most) ∧ w.heap.size ≤ lb ∧ lb < w'.heap.size ∧ Keep noBlock w w' := by
  obtain ⟨i0, hi, hz0, hz1, hz2⟩ := info_parts info86
  have g1 : ¬ (1024 : Int) < (xs.length : Int) := by omega
  have g2 : ¬ (most : Int) < 1 := by omega
  have g3 : ¬ (15 : Int) < (most : Int) := by omega
  obtain ⟨z, hz⟩ : ∃ z, z = 2 ^ most := ⟨_, rfl⟩
  have hzI : (2 : Int) ^ most = (z : Int) := by rw [hz]; simp
  have hzb : z ≤ 32768 := by rw [hz]; exact Nat.le_trans (Nat.pow_le_pow_right (by omega) hm) (by decide)
  have hC := order32_any a cap gb off xs w hR hl
  have HC := (show Hid (∀ u : Unit, Calls Tryz.prog 64 _ w _) from fun _ => hC)
  have HB := (show Hid (z = 2 ^ most ∧ 2 ≤ (placesTo (numOf xs) xs.length).length ∧ (placesTo (numOf xs) xs.length).length ≤ z ∧ Row w .u32 a cap gb off xs ∧ ∀ i, numOf xs i < 4294967296) from ⟨hz, hgood.1, by rw [hz]; exact hgood.2, hR, hx⟩)
  have hmk5 : ∀ W : World, (Instr.makeSlice 22 (.int .i64 (xs.length : Int)) (.int .i64 (xs.length : Int))).run Tryz.prog W = .ok (.slice (some ⟨W.heap.size, 0, none⟩) xs.length xs.length) (W.alloc (.cells (madeCells #[.int .u8 0] xs.length) 5)) := fun W =>
    run_make_row' 22 5 (.int .u8 0) 1 Tryz.underlying22 info5' rfl .i64 .i64 xs.length (by omega) (by omega) W
  clear hC hR hz hgood hx
  go_enter Tryz.func45, Tryz.ntmps45
  go_wp2_with fail
  refine (HC.out ()).mono ?_
  rintro e w1 ⟨g, cap', P, rfl, hg1, hg2, hRP, hO, hk⟩
  obtain ⟨q1, q2, q3, q4, q5⟩ := HB.out
  have hlen := hO.len
  obtain ⟨n, hn⟩ : ∃ n, n = P.length := ⟨_, rfl⟩
  have hn2 : 2 ≤ n := by rw [hn, hlen]; exact q2
  have hnz : n ≤ z := by rw [hn, hlen]; exact q3
  have hn1 : n ≤ 1024 := by
    rw [hn, hlen]
    exact Nat.le_trans (List.length_filter_le _ _) (by simpa using hl)
  have hmk : ∀ W : World, (Instr.makeSlice 130 (.int .i64 (n : Int)) (.int .i64 (n : Int))).run Tryz.prog W = .ok (.slice (some ⟨W.heap.size, 0, none⟩) n n) (W.alloc (.cells (madeCells #[.int .u64 0, .bool false] (n * 2)) 132)) := fun W => by
    have := run_make (P := Tryz.prog) W 130 132 i0 (.agg #[.int .u64 0, .bool false]) Tryz.underlying130 hi hz0 .i64 .i64 (n : Int) (n : Int) (by omega) (by omega) (by rw [hz2]; omega) (by omega)
    rw [hz1] at this
    simpa [Value.cells] using this
  rw [← hn]
  have i1 : ¬ (n : Int) < 2 := by omega
  have i2 : ¬ (z : Int) < (n : Int) := by omega
  obtain ⟨ib, hib⟩ : ∃ ib, ib = w1.heap.size := ⟨_, rfl⟩
  have hnew : (w1.alloc (.cells (madeCells #[.int .u64 0, .bool false] (n * 2)) 132)).heap[ib]? = some (.cells (madeCells #[.int .u64 0, .bool false] (n * 2)) 132 (0, 0)) := by rw [hib]; exact World.alloc_heap_new w1 _
  have hkn : Keep noBlock w1 (w1.alloc (.cells (madeCells #[.int .u64 0, .bool false] (n * 2)) 132)) := (Keep.refl _ w1).alloc _
  have hsz1 := hk.size
  have H1 := (show Hid (n = P.length ∧ Row w1 .i64 (some ⟨g, 0, none⟩) cap' g 0 P ∧ IsOrder (numOf xs) xs.length P ∧ Keep noBlock w w1 ∧ z = 2 ^ most ∧ Row w .u32 a cap gb off xs ∧ (∀ i, numOf xs i < 4294967296) ∧ w.heap.size ≤ g ∧ g < ib ∧ ib = w1.heap.size ∧ w.heap.size ≤ ib ∧ n ≤ z) from ⟨hn, hRP, hO, hk, q1, q4, q5, hg1, by omega, hib, by omega, hnz⟩)
  have H2 := (show Hid (_ ∧ _) from ⟨hnew, hkn⟩)
  clear q1 q2 q3 q4 q5 hlen hn hRP hO hk hg1 hg2 hnew hkn HC HB hnz
  go_wp2
  rw [← hib]
  generalize w1.alloc (.cells (madeCells #[.int .u64 0, .bool false] (n * 2)) 132) = W2 at H2 ⊢
  clear hib hmk i1 i2 hsz1
  go_loopw [43] (fun vi wr => ∃ (i : Nat) (cs : Array Value), vi = .int .i64 (i : Int) ∧ i ≤ n ∧ wr.heap[ib]? = some (.cells cs 132 (0, 0)) ∧ cs.size = n * 2 ∧ (∀ j, j < i → cs[j * 2]? = some (.int .u64 ((numOf xs (P[j]?.getD 0) : Nat) : Int)) ∧ cs[j * 2 + 1]? = some (.bool true)) ∧ Keep noBlock w1 wr) (fun vi _ => n - (intOf vi).toNat)
  case atStart => exact ⟨0, _, rfl, Nat.zero_le _, H2.out.1, by simp [size_madeCells], fun j hj => by omega, H2.out.2⟩
  case round =>
    clear H2
    obtain ⟨i, cs, rfl, hin, ho, hcz, hcs, hkw⟩ := hrel
    by_cases hlt : i < n
    · obtain ⟨h1n, hRP, hO, hk, hz2', hR, hx, hg0, hg1, hib, hwi, _⟩ := H1.out
      have hRPw := hRP.keep hkw (fun _ h => h)
      have c1 := hRPw.cells i (by omega)
      rw [Nat.zero_add] at c1
      have hpm : P[i]?.getD 0 ∈ P := by rw [List.getElem?_eq_getElem (by omega)]; exact List.getElem_mem _
      have hpl := ((hO.mem _).1 hpm).1
      have hRw := hR.keep (hk.trans' hkw) (fun _ h => h)
      obtain rfl : a = some ⟨gb, off, none⟩ := by
        rcases hRw.at_ with h | h
        · exact h
        · rw [h] at hpl; simp at hpl
      have c2 := hRw.cells _ hpl
      have hnum : xs[P[i]?.getD 0]?.getD 0 = numOf xs (P[i]?.getD 0) := rfl
      rw [hnum] at c2
      have hxb := hx (P[i]?.getD 0)
      obtain ⟨p, hp⟩ : ∃ p, p = P[i]?.getD 0 := ⟨_, rfl⟩
      rw [← hp] at c1 c2 hpl hxb
      obtain ⟨x, hxx⟩ : ∃ x, x = numOf xs p := ⟨_, rfl⟩
      rw [← hxx] at c2 hxb
      have hc3 : ∃ v, wr.cell? ⟨ib, i * 2, none⟩ = some v := ⟨cs[i * 2]'(by omega), by rw [cell_of ho, Array.getElem?_eq_getElem (by omega)]⟩
      have hc4 : ∃ v, wr.cell? ⟨ib, i * 2 + 1, none⟩ = some v := ⟨cs[i * 2 + 1]'(by omega), by rw [cell_of ho, Array.getElem?_eq_getElem (by omega)]⟩
      obtain ⟨v3, c3⟩ := hc3
      obtain ⟨v4, c4⟩ := hc4
      have f3 := frozen_of ho (i * 2)
      have f4 := frozen_of ho (i * 2 + 1)
      have hs1 := set_obj ho (i * 2) (.int .u64 (x : Int))
      have hs2 := set_obj hs1 (i * 2 + 1) (.bool true)
      have hkk : Keep noBlock w1 ((wr.setCell ⟨ib, i * 2, none⟩ (.int .u64 (x : Int))).setCell ⟨ib, i * 2 + 1, none⟩ (.bool true)) := Keep.setCell (p := ⟨ib, i * 2 + 1, none⟩) (Keep.setCell (p := ⟨ib, i * 2, none⟩) hkw (fun h => by dsimp only at h; omega) _) (fun h => by dsimp only at h; omega) _
      have HS := (show Hid (((wr.setCell ⟨ib, i * 2, none⟩ (.int .u64 (x : Int))).setCell ⟨ib, i * 2 + 1, none⟩ (.bool true)).heap[ib]? = some (.cells ((cs.setIfInBounds (i * 2) (.int .u64 (x : Int))).setIfInBounds (i * 2 + 1) (.bool true)) 132 (0, 0)) ∧ Keep noBlock w1 ((wr.setCell ⟨ib, i * 2, none⟩ (.int .u64 (x : Int))).setCell ⟨ib, i * 2 + 1, none⟩ (.bool true)) ∧
        ∀ j, j < i + 1 → ((cs.setIfInBounds (i * 2) (.int .u64 (x : Int))).setIfInBounds (i * 2 + 1) (.bool true))[j * 2]? = some (.int .u64 ((numOf xs (P[j]?.getD 0) : Nat) : Int)) ∧ ((cs.setIfInBounds (i * 2) (.int .u64 (x : Int))).setIfInBounds (i * 2 + 1) (.bool true))[j * 2 + 1]? = some (.bool true)) from ⟨hs2, hkk, fun j hj => by
          rw [Array.getElem?_setIfInBounds, Array.getElem?_setIfInBounds, Array.getElem?_setIfInBounds, Array.getElem?_setIfInBounds, Array.size_setIfInBounds]
          by_cases e : j = i
          · subst e
            rw [if_neg (show ¬ j * 2 + 1 = j * 2 by omega), if_pos (show j * 2 = j * 2 from rfl), if_pos (show j * 2 < cs.size by omega), if_pos (show j * 2 + 1 = j * 2 + 1 from rfl), if_pos (show j * 2 + 1 < cs.size by omega), hxx, hp]
            exact ⟨rfl, rfl⟩
          · rw [if_neg (show ¬ i * 2 + 1 = j * 2 by omega), if_neg (show ¬ i * 2 = j * 2 by omega), if_neg (show ¬ i * 2 + 1 = j * 2 + 1 by omega), if_neg (show ¬ i * 2 = j * 2 + 1 by omega)]
            exact hcs j (by omega)⟩)
      have hpI : (p : Int) < (xs.length : Int) := by omega
      have hiI : (i : Int) < (n : Int) := by omega
      clear hs1 hs2 hkk ho hcs hkw hRPw hRw hpm hnum hp hxx hRP hO hk hR hx h1n hz2' hib
      go_wp2
      go_roundw
      case rel => exact ⟨i + 1, _, by go_num, by omega, HS.out.1, by rw [Array.size_setIfInBounds, Array.size_setIfInBounds]; exact hcz, HS.out.2.2, HS.out.2.1⟩
      case measure => simp [intOf]; omega
    · obtain rfl : i = n := by omega
      obtain ⟨h1n, hRP, hO, hk, hz2', hR, hx, hg0, hg1, hib, hwi, hnz⟩ := H1.out
      have hlvl : (lvOf xs P).length = i := by rw [lvOf, List.length_map]; exact h1n.symm
      have hI : Items wr (some ⟨ib, 0, none⟩) i ib 0 (lvOf xs P) := by
        refine ⟨.inl rfl, fun j hj => ?_, by omega, fun _ => obj_lt ho⟩
        have hj' : j < i := by omega
        obtain ⟨r1, r2⟩ := hcs j hj'
        rw [Nat.zero_add, cell_of ho, cell_of ho, r1, r2]
        have hjP : j < P.length := by omega
        simp [lvOf, hjP]
      have hal : ∀ p ∈ lvOf xs P, p.2 = true := by
        intro p hp
        simp only [lvOf, List.mem_map] at hp
        obtain ⟨q, _, rfl⟩ := hp
        rfl
      have hlt32 : ∀ p ∈ lvOf xs P, p.1 < 4294967296 := by
        intro p hp
        simp only [lvOf, List.mem_map] at hp
        obtain ⟨q, _, rfl⟩ := hp
        exact hx q
      have hkl : Keep noBlock wr (wr.alloc (.cells (madeCells #[.int .u8 0] xs.length) 5)) := (Keep.refl _ wr).alloc _
      obtain ⟨lb, hlb⟩ : ∃ lb, lb = wr.heap.size := ⟨_, rfl⟩
      have hnl : (wr.alloc (.cells (madeCells #[.int .u8 0] xs.length) 5)).heap[lb]? = some (.cells (madeCells #[.int .u8 0] xs.length) 5 (0, 0)) := by rw [hlb]; exact World.alloc_heap_new wr _
      have hLg := longer_any ⟨ib, 0, none⟩ i ib 0 most (lvOf xs P) (wr.alloc (.cells (madeCells #[.int .u8 0] xs.length) 5)) (hI.keep hkl (fun _ h => h)) (by omega) (by omega) hm0 hm hlt32 (fun j hj => itF_fits (lvOf xs P) most hal hm0 (by rw [hlvl, ← hz2']; exact hnz) j hj)
      rw [hlvl] at hLg
      have hib2 : ib < lb := by rw [hlb]; exact obj_lt ho
      have HL := (show Hid (∀ u : Unit, Calls Tryz.prog 65 _ _ _) from fun _ => hLg)
      have hTl : ∀ k, takenF (lvOf xs P) most k ≤ i := fun k => by have := takenF_le (lvOf xs P) most k hal; omega
      have HQ := (show Hid ((wr.alloc (.cells (madeCells #[.int .u8 0] xs.length) 5)).heap[lb]? = some (.cells (madeCells #[.int .u8 0] xs.length) 5 (0, 0)) ∧ Keep noBlock w1 (wr.alloc (.cells (madeCells #[.int .u8 0] xs.length) 5)) ∧ ib < lb ∧ (∀ k, takenF (lvOf xs P) most k ≤ i) ∧ (wr.alloc (.cells (madeCells #[.int .u8 0] xs.length) 5)).heap.size = lb + 1) from ⟨hnl, hkw.trans' hkl, hib2, hTl, by rw [World.size_alloc, hlb]⟩)
      clear hLg hI hal hlt32 hkl hnl ho hcs hkw hRP hO hk hR hx h1n hz2' hib hlvl hTl hnz
      go_wp2_with fail
      refine (HL.out ()).mono ?_
      rintro e w3 ⟨g2, rfl, hRT, hg3, hg4, hk3⟩
      rw [← hlb]
      clear hlb
      obtain ⟨q1, q2, q3, q4, q5⟩ := HQ.out
      have hl3 := hk3.obj q1 (fun h => h)
      rw [q5] at hg3
      have H3 := (show Hid (Row w3 .i64 (some ⟨g2, 0, none⟩) most g2 0 ((List.range most).map (takenF (lvOf xs P) most)) ∧ w3.heap[lb]? = some (.cells (madeCells #[.int .u8 0] xs.length) 5 (0, 0)) ∧ Keep noBlock w1 w3 ∧ lb < g2 ∧ ib < lb ∧ ∀ k, takenF (lvOf xs P) most k ≤ i) from ⟨hRT, hl3, q2.trans' hk3, by omega, q3, q4⟩)
      clear hRT hl3 hk3 q1 q2 q3 q4 q5 hg3 hg4 HL HQ hmk5
      obtain ⟨T, hT⟩ : ∃ T, T = takenF (lvOf xs P) most := ⟨_, rfl⟩
      rw [← hT] at H3
      have HTT := (show Hid (T = takenF (lvOf xs P) most) from hT)
      clear hT
      go_wp2
      go_loopw [65] (fun vk wr => ∃ (k : Nat) (cs : Array Value), vk = .int .i64 (k : Int) ∧ k ≤ most ∧ wr.heap[lb]? = some (.cells cs 5 (0, 0)) ∧ (∀ s, s < xs.length → cs[s]? = some (.int .u8 ((incTo P T k 0 s : Nat) : Int))) ∧ Keep (fun x => x = lb) w3 wr) (fun vk _ => most - (intOf vk).toNat)
      case atStart =>
        refine ⟨0, _, rfl, by omega, H3.out.2.1, fun s hs => ?_, Keep.refl _ _⟩
        rw [incTo_zero]; simp [madeCells, hs, Nat.mod_one]
      case round =>
        obtain ⟨k, cs, rfl, hkm, ho, hcs, hkw⟩ := hrel
        by_cases hlt : k < most
        · obtain ⟨r1, r2, r3, r4, r5, r6⟩ := H3.out
          obtain ⟨h1n, hRP, hO, _⟩ := H1.out
          have c1 := (r1.keep hkw (fun _ => by omega)).cells k (by simpa using hlt)
          have htk : ((List.range most).map T)[k]?.getD 0 = T k := by simp [hlt]
          rw [htk, Nat.zero_add] at c1
          obtain ⟨t, ht⟩ : ∃ t, t = T k := ⟨_, rfl⟩
          rw [← ht] at c1
          have htn : t ≤ i := by rw [ht]; exact r6 k
          have hle := hRP.le
          have htI : (t : Int) ≤ (cap' : Int) := by omega
          have hkI : (k : Int) < (most : Int) := by omega
          have H4 := (show Hid (t = T k ∧ wr.heap[lb]? = some (.cells cs 5 (0, 0)) ∧ (∀ s, s < xs.length → cs[s]? = some (.int .u8 ((incTo P T k 0 s : Nat) : Int))) ∧ Keep (fun x => x = lb) w3 wr) from ⟨ht, ho, hcs, hkw⟩)
          clear ht htk r1 r2 r3 r6 h1n hRP hO hle ho hcs hkw
          go_wp2
          go_loopw [73] (fun vj wr => ∃ (j : Nat) (cs : Array Value), vj = .int .i64 (j : Int) ∧ j ≤ t ∧ wr.heap[lb]? = some (.cells cs 5 (0, 0)) ∧ (∀ s, s < xs.length → cs[s]? = some (.int .u8 ((incTo P T k j s : Nat) : Int))) ∧ Keep (fun x => x = lb) w3 wr) (fun vj _ => t - (intOf vj).toNat)
          case atStart => exact ⟨0, cs, rfl, Nat.zero_le _, H4.out.2.1, H4.out.2.2.1, H4.out.2.2.2⟩
          case round =>
            clear c1
            obtain ⟨j, cs, rfl, hjt, ho, hcs, hkw⟩ := hrel
            by_cases hjl : j < t
            · obtain ⟨_, _, r3, _, _, r6⟩ := H3.out
              obtain ⟨h1n, hRP, hO, _, _, _, _, _, hgi, _⟩ := H1.out
              have hjP : j < P.length := by omega
              have c1 := ((hRP.keep r3 (fun _ h => h)).keep hkw (fun _ => by omega)).cells j hjP
              rw [Nat.zero_add, List.getElem?_eq_getElem hjP, Option.getD_some] at c1
              have hpl := ((hO.mem _).1 (List.getElem_mem hjP)).1
              have c2 := (cell_of ho P[j]).trans (hcs _ hpl)
              have f2 := frozen_of ho P[j]
              have hil := incTo_le P T k j P[j]
              have hset := set_obj ho P[j] (.int .u8 ((incTo P T k j P[j] : Int) + 1))
              have HS := (show Hid ((wr.setCell ⟨lb, P[j], none⟩ (.int .u8 ((incTo P T k j P[j] : Int) + 1))).heap[lb]? = some (.cells (cs.setIfInBounds P[j] (.int .u8 ((incTo P T k j P[j] : Int) + 1))) 5 (0, 0)) ∧ (∀ s, s < xs.length → (cs.setIfInBounds P[j] (.int .u8 ((incTo P T k j P[j] : Int) + 1)))[s]? = some (.int .u8 ((incTo P T k (j + 1) s : Nat) : Int))) ∧ Keep (fun x => x = lb) w3 (wr.setCell ⟨lb, P[j], none⟩ (.int .u8 ((incTo P T k j P[j] : Int) + 1)))) from ⟨hset, fun s hs => by
                rw [Array.getElem?_setIfInBounds, incTo_step P T k j s hO.nodup hjP]
                have hsl : s < cs.size := (Array.getElem?_eq_some_iff.1 (hcs s hs)).1
                by_cases e : P[j] = s
                · rw [if_pos e, if_pos (by rw [e]; exact hsl), if_pos e.symm, e]; rfl
                · rw [if_neg e, if_neg (fun x => e x.symm)]; exact hcs s hs, Keep.setCell (S := fun x => x = lb) (p := ⟨lb, P[j], none⟩) hkw (fun _ => rfl) _⟩)
              obtain ⟨x, hx⟩ : ∃ x, x = incTo P T k j P[j] := ⟨_, rfl⟩
              rw [← hx] at c2 hil HS
              obtain ⟨p, hp⟩ : ∃ p, p = P[j] := ⟨_, rfl⟩
              rw [← hp] at c1 c2 f2 hpl HS
              have hpI : (p : Int) < (xs.length : Int) := by omega
              have hjI : (j : Int) < (t : Int) := by omega
              clear hx hp hset ho hcs hkw hRP hO h1n r3 r6
              go_wp2
              go_roundw
              case rel => exact ⟨j + 1, _, by go_num, by omega, HS.out.1, HS.out.2.1, HS.out.2.2⟩
              case measure => simp [intOf]; omega
            · obtain rfl : j = t := by omega
              have HE := (show Hid (wr.heap[lb]? = some (.cells cs 5 (0, 0)) ∧ (∀ s, s < xs.length → cs[s]? = some (.int .u8 ((incTo P T (k + 1) 0 s : Nat) : Int))) ∧ Keep (fun x => x = lb) w3 wr) from ⟨ho, fun s hs => by rw [hcs s hs, incTo_next, H4.out.1], hkw⟩)
              clear ho hcs hkw
              go_wp2
              go_roundw
              case rel => exact ⟨k + 1, _, by go_num, by omega, HE.out.1, HE.out.2.1, HE.out.2.2⟩
              case measure => simp [intOf]; omega
        · obtain rfl : k = most := by omega
          go_wp2
          go_ret2
          obtain ⟨_, _, r3, r4, r5, _⟩ := H3.out
          obtain ⟨_, _, hO, hk, _, _, _, hg0, hgi, hib, hwi, _⟩ := H1.out
          refine ⟨lb, P, rfl, hO, ⟨.inl rfl, fun s hs => ?_, by simp [limitL]⟩, by omega, obj_lt ho, (hk.trans' r3).trans hkw (fun x hx h => (by omega : False))⟩
          · have hs' : s < xs.length := by simpa [limitL] using hs
            rw [Nat.zero_add, cell_of ho, hcs s hs', HTT.out]
            simp [limitL, hs']

end Go.Proofs.YtcoahkmiebeeeaaGreatDoor.C5

namespace Go.Proofs.YtcoahkmiebeeeaaGreatDoor.C5
open Go.RowKit Go.Shelf

end Go.Proofs.YtcoahkmiebeeeaaGreatDoor.C5

namespace Go.Proofs.YtcoahkmiebeeeaaGreatDoor.C5

def sumL {α : Type} (l : List α) (f : α → Nat) : Nat := (l.map f).sum
theorem sumL_nil {α : Type} (f : α → Nat) : sumL [] f = 0 := rfl
theorem sumL_cons {α : Type} (a : α) (l : List α) (f : α → Nat) : sumL (a :: l) f = f a + sumL l f := by simp [sumL]
theorem sumL_snoc {α : Type} (a : α) (l : List α) (f : α → Nat) : sumL (l ++ [a]) f = sumL l f + f a := by simp [sumL]
theorem sumL_congr {α : Type} {l : List α} {f g : α → Nat} (h : ∀ x ∈ l, f x = g x) : sumL l f = sumL l g := by
  unfold sumL; rw [List.map_congr_left h]
theorem sumL_add {α : Type} (l : List α) (f g : α → Nat) : sumL l (fun x => f x + g x) = sumL l f + sumL l g := by
  induction l with
  | nil => rfl
  | cons a l ih => rw [sumL_cons, sumL_cons, sumL_cons, ih]; omega
theorem sumL_mul {α : Type} (l : List α) (f : α → Nat) (c : Nat) : sumL l (fun x => c * f x) = c * sumL l f := by
  induction l with
  | nil => rfl
  | cons a l ih => rw [sumL_cons, sumL_cons, ih, Nat.mul_add]
theorem sumL_zero {α : Type} (l : List α) : sumL l (fun _ => 0) = 0 := by
  induction l with
  | nil => rfl
  | cons a l ih => rw [sumL_cons, ih]
theorem sumL_const {α : Type} (l : List α) (c : Nat) : sumL l (fun _ => c) = l.length * c := by
  induction l with
  | nil => simp [sumL]
  | cons a l ih => rw [sumL_cons, ih, List.length_cons, Nat.add_mul]; omega
theorem sumL_swap {α β : Type} (l : List α) (m : List β) (f : α → β → Nat) : sumL l (fun a => sumL m (f a)) = sumL m (fun b => sumL l (fun a => f a b)) := by
  induction l with
  | nil => exact (sumL_zero m).symm
  | cons a l ih => rw [sumL_cons, ih, ← sumL_add]; exact sumL_congr (fun b _ => (sumL_cons a l (fun a => f a b)).symm)
theorem sumL_one (N q : Nat) (g : Nat → Nat) : sumL (List.range N) (fun s => if s = q then g s else 0) = if q < N then g q else 0 := by
  induction N with
  | zero => rfl
  | succ N ih =>
    rw [List.range_succ, sumL_snoc, ih]
    by_cases h : N = q
    · subst h; simp
    · rw [if_neg h]
      by_cases h2 : q < N
      · rw [if_pos h2, if_pos (by omega)]; rfl
      · rw [if_neg h2, if_neg (by omega)]
theorem sumL_mem (N : Nat) (Q : List Nat) (hd : Q.Nodup) (hN : ∀ q ∈ Q, q < N) (g : Nat → Nat) : sumL (List.range N) (fun s => if s ∈ Q then g s else 0) = sumL Q g := by
  induction Q with
  | nil => simp [sumL_zero, sumL_nil]
  | cons q Q ih =>
    obtain ⟨h1, h2⟩ := List.nodup_cons.1 hd
    have e : sumL (List.range N) (fun s => if s ∈ q :: Q then g s else 0) = sumL (List.range N) (fun s => (if s = q then g s else 0) + (if s ∈ Q then g s else 0)) := sumL_congr (fun s _ => by
      by_cases hs : s = q
      · subst hs; simp [h1]
      · simp [hs])
    rw [e, sumL_add, sumL_one, if_pos (hN q (List.mem_cons_self ..)), ih h2 (fun x hx => hN x (List.mem_cons_of_mem _ hx)), sumL_cons]

theorem parts_sum (ls : List Nat) (m : Nat) : partsTo (many ls) m = sumL ls (fun x => if x = 0 ∨ m ≤ x then 0 else 2 ^ (15 - x)) := by
  induction m with
  | zero => simp [partsTo, sumL_zero]
  | succ m ih =>
    rw [partsTo, ih]
    clear ih
    induction ls with
    | nil => simp [many, sumL_nil]
    | cons x ls ih =>
      rw [sumL_cons, sumL_cons, ← ih]
      have hm : many (x :: ls) m = many ls m + (if m ≠ 0 ∧ x = m then 1 else 0) := by
        unfold many
        by_cases h0 : m = 0
        · simp [h0]
        · rw [if_neg h0, if_neg h0, List.count_cons]
          by_cases hx : x = m
          · simp [hx, h0]
          · simp [hx]
      rw [hm, Nat.add_mul]
      generalize sumL ls (fun x => if x = 0 ∨ m ≤ x then 0 else 2 ^ (15 - x)) = A at ih ⊢
      generalize many ls m = M
      by_cases hx : x = m
      · subst hx
        rw [if_pos (show x = 0 ∨ x ≤ x from .inr (Nat.le_refl _))]
        by_cases h0 : x = 0
        · rw [if_neg (show ¬ (x ≠ 0 ∧ x = x) from fun h => h.1 h0), if_pos (.inl h0)]; omega
        · rw [if_pos ⟨h0, rfl⟩, if_neg (by omega)]; generalize 2 ^ (15 - x) = q; generalize M * q = z; omega
      · rw [if_neg (show ¬ (m ≠ 0 ∧ x = m) from fun h => hx h.2)]
        by_cases h0 : x = 0 ∨ m ≤ x
        · rw [if_pos h0, if_pos (by omega)]; omega
        · rw [if_neg h0, if_neg (by omega)]; generalize 2 ^ (15 - x) = q; omega
theorem parts_all (ls : List Nat) (h : ∀ x ∈ ls, x ≤ 15) : partsTo (many ls) 16 = sumL ls (fun x => if x = 0 then 0 else 2 ^ (15 - x)) := by
  rw [parts_sum]
  exact sumL_congr (fun x hx => by have := h x hx; simp [show ¬ 16 ≤ x by omega])

theorem pow_levels (q : Nat → Bool) (m : Nat) (hq : ∀ i, i + 1 < m → q i = true → q (i + 1) = true) :
    2 ^ (m - ((List.range m).filter q).length) + sumL (List.range m) (fun i => if q i then 2 ^ i else 0) = 2 ^ m := by
  induction m with
  | zero => simp [sumL_nil]
  | succ m ih =>
    have ih := ih (fun i hi => hq i (by omega))
    have hle : ((List.range m).filter q).length ≤ m := Nat.le_trans (List.length_filter_le _ _) (by simp)
    rw [List.range_succ, sumL_snoc, List.filter_append, List.length_append]
    cases hm : q m with
    | true =>
      simp only [List.filter_cons, hm, if_true, List.filter_nil, List.length_cons, List.length_nil]
      rw [show m + 1 - (((List.range m).filter q).length + (0 + 1)) = m - ((List.range m).filter q).length by omega, ← Nat.add_assoc, ih, Nat.pow_succ]
      omega
    | false =>
      have hno : ∀ i, i < m → q i = false := by
        intro i hi
        cases hc : q i with
        | false => rfl
        | true =>
          have : ∀ d, i + d ≤ m → q (i + d) = true := by
            intro d
            induction d with
            | zero => intro _; exact hc
            | succ d ihd => intro hd; exact hq (i + d) (by omega) (ihd (by omega))
          have := this (m - i) (by omega)
          rw [show i + (m - i) = m by omega, hm] at this
          cases this
      have h0 : (List.range m).filter q = [] := by
        rw [List.filter_eq_nil_iff]
        intro i hi
        rw [hno i (List.mem_range.1 hi)]
        simp
      have h1 : sumL (List.range m) (fun i => if q i then 2 ^ i else 0) = 0 := by
        refine Eq.trans (sumL_congr (g := fun _ => 0) (fun i hi => ?_)) (sumL_zero (List.range m))
        rw [hno i (List.mem_range.1 hi)]; rfl
      rw [h0, h1]
      simp [hm]

def lenS (P : List Nat) (T : Nat → Nat) (m s : Nat) : Nat := ((List.range m).filter (fun i => decide (s ∈ P.take (T i)))).length
theorem incTo_lenS (P : List Nat) (T : Nat → Nat) (m s : Nat) : incTo P T m 0 s = lenS P T m s := by simp [incTo, lenS]

theorem lenS_le {P : List Nat} {T : Nat → Nat} {m : Nat} (s : Nat) : lenS P T m s ≤ m := by
  unfold lenS
  exact Nat.le_trans (List.length_filter_le _ _) (by simp)
theorem lenS_zero {P : List Nat} {T : Nat → Nat} {m : Nat} (htop : 1 ≤ m ∧ T (m - 1) = P.length) (s : Nat) : lenS P T m s = 0 ↔ s ∉ P := by
  unfold lenS
  rw [List.length_eq_zero_iff, List.filter_eq_nil_iff]
  constructor
  · intro h hs
    have := h (m - 1) (List.mem_range.2 (by omega))
    rw [htop.2, List.take_length] at this
    simp [hs] at this
  · intro h i _ hc
    exact h (List.mem_of_mem_take (of_decide_eq_true hc))
theorem len_parts {P : List Nat} {T : Nat → Nat} {m N : Nat} (hd : P.Nodup) (hN : ∀ p ∈ P, p < N) (hT : ∀ i, T i ≤ P.length) (hmono : ∀ i, i + 1 < m → T i ≤ T (i + 1)) : sumL (List.range N) (fun s => if s ∈ P then 2 ^ (m - lenS P T m s) else 0) + sumL (List.range m) (fun i => 2 ^ i * T i) = P.length * 2 ^ m := by
  have e : ∀ s, (if s ∈ P then 2 ^ m else 0) = (if s ∈ P then 2 ^ (m - lenS P T m s) else 0) + sumL (List.range m) (fun i => if s ∈ P.take (T i) then 2 ^ i else 0) := fun s => by
    by_cases h : s ∈ P
    · rw [if_pos h, if_pos h]
      have := pow_levels (fun i => decide (s ∈ P.take (T i))) m (fun i hi hq => by
        rw [decide_eq_true_iff] at hq ⊢
        exact (List.take_subset_take_left P (hmono i hi)) hq)
      rw [← this]
      simp [lenS]
    · rw [if_neg h, if_neg h, Nat.zero_add]
      exact (Eq.trans (sumL_congr (g := fun _ => 0) (fun i _ => by rw [if_neg (fun hc => h (List.mem_of_mem_take hc))])) (sumL_zero (List.range m))).symm
  have e2 : sumL (List.range N) (fun s => sumL (List.range m) (fun i => if s ∈ P.take (T i) then 2 ^ i else 0)) = sumL (List.range m) (fun i => 2 ^ i * T i) := by
    rw [sumL_swap]
    refine sumL_congr (fun i _ => ?_)
    rw [sumL_mem N (P.take (T i)) (hd.sublist (List.take_sublist _ _)) (fun q hq => hN q (List.mem_of_mem_take hq)) (fun _ => 2 ^ i), sumL_const, List.length_take, Nat.min_eq_left (hT i), Nat.mul_comm]
  rw [← e2, ← sumL_add, ← sumL_congr (fun s _ => e s), sumL_mem N P hd hN (fun _ => 2 ^ m), sumL_const]
theorem lv_all (xs P : List Nat) : ∀ p ∈ lvOf xs P, p.2 = true := by
  intro p hp
  simp only [lvOf, List.mem_map] at hp
  obtain ⟨i, _, rfl⟩ := hp
  rfl
theorem lv_len (xs P : List Nat) : (lvOf xs P).length = P.length := by simp [lvOf]
theorem lv_rising {xs P : List Nat} (hP : IsOrder (numOf xs) xs.length P) : Rising (lvOf xs P) := by
  unfold Rising lvOf
  rw [List.pairwise_map]
  exact hP.sorted.imp (fun h => by unfold Lx at h; show _ ≤ _; simp only; omega)
theorem limitL_len (xs P : List Nat) (most : Nat) : (limitL xs P most).length = xs.length := by simp [limitL]
theorem limitL_at (xs P : List Nat) (most s : Nat) (hs : s < xs.length) : numOf (limitL xs P most) s = lenS P (takenF (lvOf xs P) most) most s := by
  unfold numOf limitL
  rw [List.getElem?_map, List.getElem?_range hs]
  exact incTo_lenS _ _ _ _
theorem best_top {xs P : List Nat} {most : Nat} (hm : 1 ≤ most) (hn : P.length ≤ 2 ^ most) : sumL (List.range most) (fun i => wsum ((lvOf xs P).take (takenF (lvOf xs P) most i))) = wsum ((levelL (lvOf xs P) (most - 1)).take (2 * P.length - 2)) ∧
    sumL (List.range most) (fun i => 2 ^ i * takenF (lvOf xs P) most i) = 2 ^ (most - 1) * (2 * P.length - 2) := by
  have h := level_sum (lv := lvOf xs P) (most := most) (lv_all xs P) hm (by rw [lv_len]; exact hn) (most - 1) (by omega)
  have e : nF (lvOf xs P) most (most - 1) = 2 * P.length - 2 := by
    unfold nF
    rw [Nat.sub_self]
    show 2 * (lvOf xs P).length - 2 = _
    rw [lv_len]
  rw [e, show most - 1 + 1 = most by omega] at h
  exact ⟨h.1.symm, h.2.symm⟩
theorem best_zero {xs P : List Nat} {most : Nat} (hP : IsOrder (numOf xs) xs.length P) (h2 : 2 ≤ P.length) (hm : 1 ≤ most) (hn : P.length ≤ 2 ^ most) (s : Nat) (hs : s < xs.length) : numOf (limitL xs P most) s = 0 ↔ numOf xs s = 0 := by
  have htop : 1 ≤ most ∧ takenF (lvOf xs P) most (most - 1) = P.length := ⟨hm, by rw [taken_top (lv_all xs P) (lv_rising hP) (by rw [lv_len]; exact h2) hm (by rw [lv_len]; exact hn), lv_len]⟩
  rw [limitL_at xs P most s hs, lenS_zero htop, hP.mem]
  constructor
  · intro h
    rcases Nat.eq_zero_or_pos (numOf xs s) with e | e
    · exact e
    · exact absurd ⟨hs, by omega⟩ h
  · intro h hc
    exact hc.2 h
theorem best_le {xs P : List Nat} {most : Nat} (s : Nat) : numOf (limitL xs P most) s ≤ most := by
  by_cases hs : s < xs.length
  · rw [limitL_at xs P most s hs]; exact lenS_le s
  · unfold numOf; rw [List.getElem?_eq_none (by rw [limitL_len]; omega)]; exact Nat.zero_le _
theorem best_code {xs P : List Nat} {most : Nat} (hP : IsOrder (numOf xs) xs.length P) (h2 : 2 ≤ P.length) (hm : 1 ≤ most) (hm2 : most ≤ 15) (hn : P.length ≤ 2 ^ most) (hl : xs.length ≤ 1024) : isCode (limitL xs P most) = true := by
  have hal : ∀ x ∈ limitL xs P most, x ≤ 15 := by
    intro x hx
    obtain ⟨i, hi, rfl⟩ := List.mem_iff_getElem.1 hx
    have := best_le (xs := xs) (P := P) (most := most) i
    unfold numOf at this
    rw [List.getElem?_eq_getElem hi] at this
    simp at this
    omega
  unfold isCode
  rw [decide_eq_true_iff]
  refine ⟨by rw [limitL_len]; exact hl, hal, ?_⟩
  rw [parts_all _ hal]
  have hlv : (lvOf xs P).length ≤ 2 ^ most := by rw [lv_len]; exact hn
  have e1 : sumL (limitL xs P most) (fun x => if x = 0 then 0 else 2 ^ (15 - x)) = 2 ^ (15 - most) * sumL (List.range xs.length) (fun s => if s ∈ P then 2 ^ (most - lenS P (takenF (lvOf xs P) most) most s) else 0) := by
    rw [← sumL_mul]
    unfold sumL limitL
    rw [List.map_map]
    congr 1
    refine List.map_congr_left (fun s hs => ?_)
    have hs' := List.mem_range.1 hs
    simp only [Function.comp, incTo_lenS]
    have hz := lenS_zero (P := P) (T := takenF (lvOf xs P) most) (m := most) ⟨hm, by rw [taken_top (lv_all xs P) (lv_rising hP) (by rw [lv_len]; exact h2) hm hlv, lv_len]⟩ s
    have hle := lenS_le (P := P) (T := takenF (lvOf xs P) most) (m := most) s
    generalize lenS P (takenF (lvOf xs P) most) most s = l at hz hle
    by_cases h : s ∈ P
    · have : l ≠ 0 := fun e => (hz.1 e) h
      rw [if_neg this, if_pos h, ← Nat.pow_add]
      congr 1
      omega
    · rw [if_pos (hz.2 h), if_neg h, Nat.mul_zero]
  have e2 := len_parts (P := P) (T := takenF (lvOf xs P) most) (m := most) (N := xs.length) hP.nodup (fun p hp => ((hP.mem p).1 hp).1) (fun i => by have := takenF_le (lvOf xs P) most i (lv_all xs P); rw [lv_len] at this; exact this) (fun i hi => taken_mono (lv_all xs P) (lv_rising hP) hm hlv i hi)
  rw [(best_top hm hn).2] at e2
  rw [e1]
  generalize sumL (List.range xs.length) (fun s => if s ∈ P then 2 ^ (most - lenS P (takenF (lvOf xs P) most) most s) else 0) = X at e2
  obtain ⟨j, rfl⟩ : ∃ j, most = j + 1 := ⟨most - 1, by omega⟩
  rw [show j + 1 - 1 = j by omega, Nat.pow_succ] at e2
  obtain ⟨n, hn'⟩ : ∃ n, P.length = n + 1 := ⟨P.length - 1, by omega⟩
  rw [hn', show 2 * (n + 1) - 2 = 2 * n by omega] at e2
  have e3 : X = 2 ^ j * 2 := by
    have : 2 ^ j * (2 * n) = n * (2 ^ j * 2) := by rw [← Nat.mul_assoc, Nat.mul_comm (2 ^ j * 2) n]
    rw [this, Nat.add_mul] at e2
    omega
  rw [e3, ← Nat.pow_succ, ← Nat.pow_add, show 15 - (j + 1) + (j + 1) = 15 by omega]
end Go.Proofs.YtcoahkmiebeeeaaGreatDoor.C5

namespace Go.Proofs.YtcoahkmiebeeeaaGreatDoor
open Go.RowKit Go.Shelf
set_option linter.unusedVariables false

def zeros99 : Array Value := (List.replicate 256 (.int .u32 0)).toArray
theorem zero99 : Tryz.zeroCells99 = zeros99 := by kernel_rfl

def cntL (l : List Nat) : List Nat := (List.range 256).map (fqN l l.length)
theorem cntL_len (l : List Nat) : (cntL l).length = 256 := by simp [cntL]
theorem cntL_at (l : List Nat) (s : Nat) (h : s < 256) : (cntL l)[s]?.getD 0 = fqN l l.length s := by
  unfold cntL
  rw [List.getElem?_map, List.getElem?_range h]; rfl
theorem cntL_le (l : List Nat) (s : Nat) : C5.numOf (cntL l) s ≤ l.length := by
  unfold C5.numOf
  by_cases h : s < 256
  · rw [cntL_at l s h]; exact fqN_le l _ s
  · rw [List.getElem?_eq_none (by rw [cntL_len]; omega)]; exact Nat.zero_le _
def kindsN (l : List Nat) : Nat := (C5.placesTo (C5.numOf (cntL l)) 256).length
def ownN (ls : List Nat) (m : Nat) : List Nat := ls.map (fun x => if 0 < x then m + 1 - x else 0)
def endN (ls : List Nat) : Nat → Nat
  | 0 => 0
  | k + 1 => if 0 < ls[k]?.getD 0 then k + 1 else endN ls k
theorem endN_le (ls : List Nat) (k : Nat) : endN ls k ≤ k := by
  induction k with
  | zero => exact Nat.le_refl _
  | succ k ih => unfold endN; split <;> omega
theorem ownN_len (ls : List Nat) (m : Nat) : (ownN ls m).length = ls.length := by simp [ownN]
theorem ownN_at (ls : List Nat) (m i : Nat) : (ownN ls m)[i]?.getD 0 = if 0 < ls[i]?.getD 0 then m + 1 - ls[i]?.getD 0 else 0 := by
  unfold ownN
  rw [List.getElem?_map]
  cases ls[i]? with
  | none => simp
  | some x => rfl

def LimP (xs : List Nat) (n : Nat) (w : World) (e : Ending) (w' : World) : Prop := Keep noBlock w w' ∧
  ((¬ (2 ≤ (C5.placesTo (C5.numOf xs) xs.length).length ∧ (C5.placesTo (C5.numOf xs) xs.length).length ≤ 2 ^ 11) ∧ e = .returned (.tuple #[.slice none 0 0, .int .i64 2])) ∨
   ∃ lb P, (2 ≤ (C5.placesTo (C5.numOf xs) xs.length).length ∧ (C5.placesTo (C5.numOf xs) xs.length).length ≤ 2 ^ 11) ∧ e = .returned (.tuple #[.slice (some ⟨lb, 0, none⟩) n n, .int .i64 0]) ∧ C5.IsOrder (C5.numOf xs) xs.length P ∧ Bytes w' (some ⟨lb, 0, none⟩) n lb 0 (C5.limitL xs P 11) ∧ lb < w'.heap.size)
theorem limit_is (cb : Nat) (l : List Nat) (W : World) (hA : IsA W cb 99 .u32 256 (fun s => ((fqN l l.length s : Nat) : Int))) (hl : l.length ≤ 131072) :
    Calls Tryz.prog 45 #[.slice (some ⟨cb, 0, none⟩) 256 256, .int .i64 11] W (LimP (cntL l) 256 W) := by
  have hR : C5.Row W .u32 (some ⟨cb, 0, none⟩) 256 cb 0 (cntL l) := ⟨.inl rfl, fun j hj => by
    rw [cntL_len] at hj
    rw [Nat.zero_add, cntL_at l j hj]; exact hA.cell j hj, Nat.le_of_eq (cntL_len l)⟩
  by_cases hg : 2 ≤ (C5.placesTo (C5.numOf (cntL l)) (cntL l).length).length ∧ (C5.placesTo (C5.numOf (cntL l)) (cntL l).length).length ≤ 2 ^ 11
  · have h := C5.limit_good _ _ _ _ 11 (cntL l) W hR (fun i => by have := cntL_le l i; omega) (by rw [cntL_len]; omega) (by omega) (by omega) hg
    rw [show ((11 : Nat) : Int) = (11 : Int) from rfl] at h
    refine (show Calls Tryz.prog 45 #[.slice (some ⟨cb, 0, none⟩) 256 256, .int .i64 11] W _ from by have := h; rw [cntL_len] at this; exact this).mono ?_
    rintro e w' ⟨lb, P, rfl, hO, hr, hb1, hb2, hk⟩
    refine ⟨hk, .inr ⟨lb, P, hg, rfl, by rw [cntL_len]; exact hO, ⟨.inl rfl, (fun h => by cases h), hr.cells, fun j => ?_, ?_, ?_⟩, hb2⟩⟩
    · have := C5.best_le (xs := cntL l) (P := P) (most := 11) j
      unfold C5.numOf at this
      omega
    · rw [C5.limitL_len, cntL_len]; exact Nat.le_refl _
    · rw [C5.limitL_len, cntL_len]; decide
  · have h := C5.limit_few _ _ _ _ 11 (cntL l) W hR (by rw [cntL_len]; omega) (by omega) (by omega) hg
    rw [show ((11 : Nat) : Int) = (11 : Int) from rfl, cntL_len] at h
    refine h.mono ?_
    rintro e w' ⟨rfl, hk⟩
    exact ⟨hk, .inl ⟨hg, rfl⟩⟩

def WAns (l : List Nat) (w : World) (e : Ending) (w' : World) : Prop := Keep noBlock w w' ∧
  ((¬ (2 ≤ kindsN l ∧ kindsN l ≤ 2 ^ 11) ∧ e = .returned (.tuple #[.slice none 0 0, .bool false])) ∨
   ∃ P m g n, (2 ≤ kindsN l ∧ kindsN l ≤ 2 ^ 11) ∧ C5.IsOrder (C5.numOf (cntL l)) 256 P ∧ IsMax (C5.limitL (cntL l) P 11) m ∧ n = endN (C5.limitL (cntL l) P 11) 256 ∧ e = .returned (.tuple #[.slice (some ⟨g, 0, none⟩) n 256, .bool true]) ∧ Bytes w' (some ⟨g, 0, none⟩) 256 g 0 ((ownN (C5.limitL (cntL l) P 11) m).take n))

set_option maxRecDepth 100000 in
set_option maxHeartbeats 2000000 in
theorem weightsOf_any (a : Option Addr) (cap gb off : Nat) (l : List Nat) (w : World) (hB : Bytes w a cap gb off l) (hl : l.length ≤ 131072) :
    Calls Tryz.prog 29 #[.slice a l.length cap] w fun e w' => WAns l w e w' := by
  have HB := hid hB
  obtain ⟨n, hn⟩ : ∃ n, n = l.length := ⟨_, rfl⟩
  have HN := hid hn
  rw [← hn] at hl ⊢
  have hnI : (n : Int) ≤ 131072 := by omega
  obtain ⟨tb, htb⟩ : ∃ tb, tb = w.heap.size := ⟨_, rfl⟩
  have HT := hid htb
  have hA : IsA (w.alloc (.cells Tryz.zeroCells99 99)) w.heap.size 99 .u32 256 (fun _ => 0) := by rw [zero99]; exact isA_zeros w 99 .u32 256
  have HA := hid (show IsA (w.alloc (.cells Tryz.zeroCells99 99)) tb 99 .u32 256 (fun s => ((fqN l 0 s : Nat) : Int)) ∧ Keep noBlock w (w.alloc (.cells Tryz.zeroCells99 99)) from by
    rw [htb]; exact ⟨hA.congr (fun _ _ => rfl), (Keep.refl _ w).alloc _⟩)
  clear hB hn hA
  go_enter Tryz.func29, Tryz.ntmps29
  go_wp2_with fail
  rw [← htb]
  generalize w.alloc (.cells Tryz.zeroCells99 99) = W1 at HA ⊢
  clear htb
  go_loopw [16] (fun v16 wr => ∃ i : Nat, v16 = .int .i64 (i : Int) ∧ i ≤ n ∧ Hid (IsA wr tb 99 .u32 256 (fun s => ((fqN l i s : Nat) : Int)) ∧ Keep noBlock w wr)) (fun v16 _ => n - (intOf v16).toNat)
  case atStart => exact ⟨0, rfl, Nat.zero_le _, HA.out⟩
  case round =>
    clear HA
    obtain ⟨i, rfl, hi, HC⟩ := hrel
    by_cases hlt : i < n
    · have hltI : (i : Int) < (n : Int) := by omega
      have hix : i < l.length := by have := HN.out; omega
      obtain ⟨hA, hK⟩ := HC.out
      obtain rfl := HB.out.here hix
      have c1 := (HB.out.keep hK (fun _ h => h)).cells i hix
      have hx11 := HB.out.lt i
      have hxw : wt l i = l[i]?.getD 0 := rfl
      obtain ⟨x, hx⟩ : ∃ x, x = l[i]?.getD 0 := ⟨_, rfl⟩
      rw [← hx] at c1 hxw hx11
      have hxI : (x : Int) < 256 := by omega
      have c2 := hA.cell x (by omega)
      have f2 := hA.frozen x
      have hqle := fqN_le l i x
      have hset := hA.set x ((fqN l i x + 1 : Nat) : Int)
      have HE := hid (show IsA (wr.setCell ⟨tb, x, none⟩ (.int .u32 ((fqN l i x + 1 : Nat) : Int))) tb 99 .u32 256 (fun s => ((fqN l (i + 1) s : Nat) : Int)) ∧ Keep noBlock w (wr.setCell ⟨tb, x, none⟩ (.int .u32 ((fqN l i x + 1 : Nat) : Int))) from by
        refine ⟨hset.congr (fun s _ => ?_), hK.setCell (p := ⟨tb, x, none⟩) (fun h => by dsimp only at h; have := HT.out; omega) _⟩
        rw [fqN_succ, hxw]
        by_cases e : s = x
        · rw [if_pos e, if_pos e.symm, e]
        · rw [if_neg e, if_neg (fun q => e q.symm)]; rfl)
      obtain ⟨q, hq⟩ : ∃ q, q = fqN l i x := ⟨_, rfl⟩
      rw [← hq] at c2 HE hqle
      obtain ⟨q1, hq1⟩ : ∃ q1, q1 = q + 1 := ⟨_, rfl⟩
      rw [← hq1] at HE
      have hq1I : (q : Int) + 1 = (q1 : Int) := by omega
      have hq1b : (q1 : Int) ≤ 131073 := by omega
      clear hA hK hset HC hx hq hqle hxw hx11 hix hq1
      go_wp2_with fail
      refine ⟨⟨i + 1, by go_num, by omega, HE.out⟩, ?_⟩
      simp [intOf]; omega
    · obtain rfl : i = n := by omega
      have hltI : ¬ (i : Int) < (i : Int) := by omega
      obtain ⟨hA, hK⟩ := HC.out
      have hlim := limit_is tb l wr (by rw [← HN.out]; exact hA) (by rw [← HN.out]; exact hl)
      obtain ⟨z, hz⟩ : ∃ z, z = 256 := ⟨_, rfl⟩
      have HL := hid (show Calls Tryz.prog 45 #[.slice (some ⟨tb, 0, none⟩) 256 256, .int .i64 11] wr (LimP (cntL l) z wr) from by rw [hz]; exact hlim)
      have HK := hid hK
      have HZ := hid hz
      clear hA hK hlim HC hz
      go_wp2_with fail
      refine HL.out.mono ?_
      rintro e w1 ⟨hk1, ⟨hf, rfl⟩ | ⟨lb, P, hgd, rfl, hO, hBl, hlb⟩⟩
      · have HF := hid (And.intro hk1 hf)
        clear hk1 hf
        go_wp2_with fail
        go_ret2
        exact ⟨HK.out.trans' HF.out.1, .inl ⟨by have := HF.out.2; rw [cntL_len] at this; exact this, rfl⟩⟩
      · obtain ⟨ls, hls⟩ : ∃ ls, ls = C5.limitL (cntL l) P 11 := ⟨_, rfl⟩
        rw [← hls] at hBl
        have hlsl : ls.length = z := by rw [hls, C5.limitL_len, cntL_len, HZ.out]
        have hle11 : ∀ j, ls[j]?.getD 0 ≤ 11 := fun j => by rw [hls]; exact C5.best_le j
        have hz2 : z = 256 := HZ.out
        have hM := max_any _ _ _ _ ls w1 hBl (by omega) (by omega)
        rw [hlsl] at hM
        have HM := hid hM
        have HG := hid (show Keep noBlock w w1 ∧ (2 ≤ kindsN l ∧ kindsN l ≤ 2 ^ 11) ∧ C5.IsOrder (C5.numOf (cntL l)) 256 P ∧ Bytes w1 (some ⟨lb, 0, none⟩) z lb 0 ls ∧ ls = C5.limitL (cntL l) P 11 ∧ ls.length = z ∧ ∀ j, ls[j]?.getD 0 ≤ 11 from ⟨HK.out.trans' hk1, by rw [cntL_len] at hgd; exact hgd, by rw [cntL_len] at hO; exact hO, hBl, hls, hlsl, hle11⟩)
        have hzI : (z : Int) ≤ 256 := by omega
        clear hk1 hgd hO hBl hlb hls hlsl hle11 hM hz2 HL
        go_wp2_with fail
        refine HM.out.mono ?_
        rintro e w2 ⟨hk2, m, hm, rfl⟩
        obtain ⟨g1, g2, g3, g4, g5, g6, g7⟩ := HG.out
        have hm11 : m ≤ 11 := by
          obtain ⟨i, hi, e⟩ := hm.at_
          have := g7 i; omega
        have hmI : (m : Int) ≤ 11 := by omega
        have hmk5 : ∀ W : World, (Instr.makeSlice 22 (.int .i64 (z : Int)) (.int .i64 (z : Int))).run Tryz.prog W = .ok (.slice (some ⟨W.heap.size, 0, none⟩) z z) (W.alloc (.cells (madeCells #[.int .u8 0] z) 5)) := fun W =>
          run_make_row' 22 5 (.int .u8 0) 1 Tryz.underlying22 C5.info5' rfl .i64 .i64 z (by omega) (by omega) W
        obtain ⟨ob, hob⟩ : ∃ ob, ob = w2.heap.size := ⟨_, rfl⟩
        have hko := (Keep.refl noBlock w2).alloc (.cells (madeCells #[.int .u8 0] z) 5)
        have hAo : IsA (w2.alloc (.cells (madeCells #[.int .u8 0] z) 5)) ob 5 .u8 z (fun j => if j < 0 then (((ownN ls m)[j]?.getD 0 : Nat) : Int) else 0) := by
          rw [hob]
          refine ⟨_, World.alloc_heap_new w2 _, by simp [size_madeCells], fun j hj => ?_⟩
          simp [madeCells, hj, Nat.mod_one]
        have H2 := hid (show Keep noBlock w w2 ∧ IsMax ls m ∧ ob = w2.heap.size ∧ m ≤ 11 from ⟨g1.trans' hk2, hm, hob, hm11⟩)
        have H3 := hid (And.intro hAo hko)
        have H4 := hid (g4.keep hk2 (fun _ h => h))
        clear hk2 hm g1 g2 g3 g4 g5 g6 g7 hAo hko hm11
        go_wp2_with fail
        rw [← hob]
        generalize w2.alloc (.cells (madeCells #[.int .u8 0] z) 5) = W3 at H3 ⊢
        clear hob
        go_loopw [10, 40] (fun v10 v40 wr => ∃ i : Nat, v10 = .int .i64 (endN ls i : Int) ∧ v40 = .int .i64 (i : Int) ∧ i ≤ z ∧ Hid (IsA wr ob 5 .u8 z (fun j => if j < i then (((ownN ls m)[j]?.getD 0 : Nat) : Int) else 0) ∧ Keep noBlock w2 wr)) (fun _ v40 _ => z - (intOf v40).toNat)
        case atStart => exact ⟨0, rfl, rfl, Nat.zero_le _, H3.out⟩
        case round =>
          clear H3
          obtain ⟨i, rfl, rfl, hi, HC⟩ := hrel
          obtain ⟨en, hen⟩ : ∃ en, en = endN ls i := ⟨_, rfl⟩
          have HEN := hid hen
          have henl : en ≤ i := by rw [hen]; exact endN_le ls i
          rw [← hen]
          clear hen
          by_cases hlt : i < z
          · have hltI : (i : Int) < (z : Int) := by omega
            obtain ⟨hA, hK⟩ := HC.out
            have c1 := (H4.out.keep hK (fun _ h => h)).cells i (by rw [HG.out.2.2.2.2.2.1]; exact hlt)
            rw [Nat.zero_add] at c1
            obtain ⟨x, hx⟩ : ∃ x, x = ls[i]?.getD 0 := ⟨_, rfl⟩
            have hxm : x ≤ m := by rw [hx]; exact H2.out.2.1.le i (by rw [HG.out.2.2.2.2.2.1]; exact hlt)
            rw [← hx] at c1
            have HX := hid hx
            by_cases hx0 : 0 < x
            · have hx0I : (0 : Int) < (x : Int) := by omega
              obtain ⟨m1, hm1⟩ : ∃ m1, m1 = m + 1 := ⟨_, rfl⟩
              obtain ⟨y, hy⟩ : ∃ y, y = m1 - x := ⟨_, rfl⟩
              have e1 : (m : Int) + 1 = (m1 : Int) := by omega
              have e2 : (m1 : Int) - (x : Int) = (y : Int) := by omega
              have e3 : (y : Int) ≤ 12 := by omega
              have e4 : (m1 : Int) ≤ 12 := by omega
              have fz := hA.frozen i
              have ci := hA.cell i hlt
              rw [if_neg (Nat.lt_irrefl i)] at ci
              have hset := hA.set i ((y : Nat) : Int)
              have hown : (ownN ls m)[i]?.getD 0 = y := by rw [ownN_at, ← hx, if_pos hx0, hy, hm1]
              have HE := hid (show IsA (wr.setCell ⟨ob, i, none⟩ (.int .u8 ((y : Nat) : Int))) ob 5 .u8 z (fun j => if j < i + 1 then (((ownN ls m)[j]?.getD 0 : Nat) : Int) else 0) ∧ Keep noBlock w2 (wr.setCell ⟨ob, i, none⟩ (.int .u8 ((y : Nat) : Int))) ∧ endN ls (i + 1) = i + 1 from by
                refine ⟨hset.congr (fun j _ => ?_), hK.setCell (p := ⟨ob, i, none⟩) (fun h => by dsimp only at h; have := H2.out.2.2.1; omega) _, by unfold endN; rw [← hx, if_pos hx0]⟩
                by_cases e : j = i
                · subst e; rw [if_pos rfl, if_pos (by omega), hown]
                · rw [if_neg e]
                  by_cases hj : j < i
                  · rw [if_pos hj, if_pos (by omega)]
                  · rw [if_neg hj, if_neg (by omega)])
              clear hA hK hset hown hx hy hm1 HC
              go_wp2_with fail
              refine ⟨⟨i + 1, ?_, by go_num, by omega, HE.out.1, HE.out.2.1⟩, ?_⟩
              · rw [HE.out.2.2]; go_num
              · simp [intOf]; omega
            · obtain rfl : x = 0 := by omega
              have HE := hid (show IsA wr ob 5 .u8 z (fun j => if j < i + 1 then (((ownN ls m)[j]?.getD 0 : Nat) : Int) else 0) ∧ Keep noBlock w2 wr ∧ endN ls (i + 1) = en from by
                refine ⟨hA.congr (fun j _ => ?_), hK, by unfold endN; rw [← hx, if_neg (by omega)]; exact HEN.out.symm⟩
                by_cases e : j = i
                · subst e; rw [if_neg (by omega), if_pos (by omega), ownN_at, ← hx]; rfl
                · by_cases hj : j < i
                  · rw [if_pos hj, if_pos (by omega)]
                  · rw [if_neg hj, if_neg (by omega)])
              clear hA hK hx HC hx0
              go_wp2_with fail
              refine ⟨⟨i + 1, ?_, by go_num, by omega, HE.out.1, HE.out.2.1⟩, ?_⟩
              · rw [HE.out.2.2]
              · simp [intOf]; omega
          · have hltI : ¬ (i : Int) < (z : Int) := by omega
            obtain rfl : i = z := by omega
            have henI : (en : Int) ≤ (i : Int) := by omega
            have hen0 : (0 : Int) ≤ (en : Int) := by omega
            go_wp2_with fail
            go_ret2
            obtain ⟨hA, hK⟩ := HC.out
            obtain ⟨g1, g2, g3, g4, g5, g6, g7⟩ := HG.out
            obtain ⟨r1, r2, r3, r4⟩ := H2.out
            have hz := HZ.out
            refine ⟨r1.trans' hK, .inr ⟨P, m, ob, en, g2, g3, by rw [← g5]; exact r2, by rw [← g5, ← hz]; exact HEN.out, by rw [hz]; rfl, ?_⟩⟩
            rw [← g5]
            refine ⟨.inl rfl, (fun h => by cases h), fun j hj => ?_, fun j => ?_, ?_, ?_⟩
            · rw [List.length_take] at hj
              rw [Nat.zero_add, hA.cell j (by omega), if_pos (by omega), List.getElem?_take, if_pos (by omega)]
            · rw [List.getElem?_take]
              split
              · rw [ownN_at]; split <;> omega
              · decide
            · rw [List.length_take]; omega
            · rw [List.length_take]; omega
end Go.Proofs.YtcoahkmiebeeeaaGreatDoor
