/-
  Limit.
-/
import Derived.Test.YtapcohpagipkpaaLim
namespace Go.Proofs.Ytapcohpagipkpaa
open Go.RowKit Go.Shelf

set_option maxRecDepth 100000 in
set_option maxHeartbeats 1000000 in
/-- Limit, where there are too many counts or the bound is none. -/
theorem limit_arg (a : Option Addr) (cap n : Nat) (most : Int) (w : World) (h : 1024 < n ∨ most < 1 ∨ 15 < most) :
    Calls Try.prog 21 #[.slice a n cap, .int .i64 most] w fun e w' => e = .returned (.tuple #[.slice none 0 0, .int .i64 2]) ∧ Keep noBlock w w' := by
  by_cases h1 : 1024 < n
  · have h1I : (1024 : Int) < (n : Int) := by omega
    go_enter Try.func21, Try.ntmps21
    go_wp2
    go_ret2
    exact ⟨rfl, Keep.refl _ _⟩
  · have h1I : ¬ (1024 : Int) < (n : Int) := by omega
    by_cases h2 : most < 1
    · go_enter Try.func21, Try.ntmps21
      go_wp2
      go_ret2
      exact ⟨rfl, Keep.refl _ _⟩
    · have h3 : 15 < most := by omega
      go_enter Try.func21, Try.ntmps21
      go_wp2
      go_ret2
      exact ⟨rfl, Keep.refl _ _⟩

set_option maxRecDepth 100000 in
set_option maxHeartbeats 1000000 in
/-- Limit, where fewer than two counts are not 0, or too many. -/
theorem limit_few (a : Option Addr) (cap gb off most : Nat) (xs : List Nat) (w : World) (hR : Row w .u32 a cap gb off xs) (hl : xs.length ≤ 1024) (hm0 : 1 ≤ most) (hm : most ≤ 15) (hbad : ¬ (2 ≤ (placesTo (numOf xs) xs.length).length ∧ (placesTo (numOf xs) xs.length).length ≤ 2 ^ most)) :
    Calls Try.prog 21 #[.slice a xs.length cap, .int .i64 (most : Int)] w fun e w' => e = .returned (.tuple #[.slice none 0 0, .int .i64 2]) ∧ Keep noBlock w w' := by
  have g1 : ¬ (1024 : Int) < (xs.length : Int) := by omega
  have g2 : ¬ (most : Int) < 1 := by omega
  have g3 : ¬ (15 : Int) < (most : Int) := by omega
  obtain ⟨z, hz⟩ : ∃ z, z = 2 ^ most := ⟨_, rfl⟩
  have hzI : (2 : Int) ^ most = (z : Int) := by rw [hz]; simp
  have hzb : z ≤ 32768 := by rw [hz]; exact Nat.le_trans (Nat.pow_le_pow_right (by omega) hm) (by decide)
  rw [← hz] at hbad
  have hC := order32_any a cap gb off xs w hR hl
  have HC := (show Hid (∀ u : Unit, Calls Try.prog 38 _ w _) from fun _ => hC)
  have HB := (show Hid (¬ (2 ≤ (placesTo (numOf xs) xs.length).length ∧ (placesTo (numOf xs) xs.length).length ≤ z)) from hbad)
  clear hC hR hz hbad
  go_enter Try.func21, Try.ntmps21
  go_wp2_with fail
  refine (HC.out ()).mono ?_
  rintro e w1 ⟨g, cap', P, rfl, hg1, hg2, hRP, hO, hk⟩
  have hb := HB.out
  have hlen := hO.len
  have hb2 : ¬ (2 ≤ P.length ∧ P.length ≤ z) := by rw [hlen]; exact hb
  clear hb hlen hRP hO HC HB
  by_cases h2 : P.length < 2
  · have h2I : (P.length : Int) < 2 := by omega
    go_wp2
    go_ret2
    exact ⟨rfl, hk⟩
  · have h2I : ¬ (P.length : Int) < 2 := by omega
    have h3I : (z : Int) < (P.length : Int) := by omega
    clear hb2
    go_wp2
    go_ret2
    exact ⟨rfl, hk⟩

theorem info5' : (Try.prog.info? 5).map (fun i => (i.zero, i.size, i.bytes)) = some (some (.int .u8 0), 1, 1) := info5

set_option maxRecDepth 100000 in
set_option maxHeartbeats 4000000 in
/-- Limit, where lengths are given. -/
theorem limit_good (a : Option Addr) (cap gb off most : Nat) (xs : List Nat) (w : World) (hR : Row w .u32 a cap gb off xs) (hx : ∀ i, numOf xs i < 4294967296) (hl : xs.length ≤ 1024) (hm0 : 1 ≤ most) (hm : most ≤ 15) (hgood : 2 ≤ (placesTo (numOf xs) xs.length).length ∧ (placesTo (numOf xs) xs.length).length ≤ 2 ^ most) :
    Calls Try.prog 21 #[.slice a xs.length cap, .int .i64 (most : Int)] w fun e w' => ∃ lb P, e = .returned (.tuple #[.slice (some ⟨lb, 0, none⟩) xs.length xs.length, .int .i64 0]) ∧ IsOrder (numOf xs) xs.length P ∧ Row w' .u8 (some ⟨lb, 0, none⟩) xs.length lb 0 (limitL xs P most) ∧ w.heap.size ≤ lb ∧ lb < w'.heap.size ∧ Keep noBlock w w' := by
  obtain ⟨i0, hi, hz0, hz1, hz2⟩ := info_parts info86
  have g1 : ¬ (1024 : Int) < (xs.length : Int) := by omega
  have g2 : ¬ (most : Int) < 1 := by omega
  have g3 : ¬ (15 : Int) < (most : Int) := by omega
  obtain ⟨z, hz⟩ : ∃ z, z = 2 ^ most := ⟨_, rfl⟩
  have hzI : (2 : Int) ^ most = (z : Int) := by rw [hz]; simp
  have hzb : z ≤ 32768 := by rw [hz]; exact Nat.le_trans (Nat.pow_le_pow_right (by omega) hm) (by decide)
  have hC := order32_any a cap gb off xs w hR hl
  have HC := (show Hid (∀ u : Unit, Calls Try.prog 38 _ w _) from fun _ => hC)
  have HB := (show Hid (z = 2 ^ most ∧ 2 ≤ (placesTo (numOf xs) xs.length).length ∧ (placesTo (numOf xs) xs.length).length ≤ z ∧ Row w .u32 a cap gb off xs ∧ ∀ i, numOf xs i < 4294967296) from ⟨hz, hgood.1, by rw [hz]; exact hgood.2, hR, hx⟩)
  have hmk5 : ∀ W : World, (Instr.makeSlice 22 (.int .i64 (xs.length : Int)) (.int .i64 (xs.length : Int))).run Try.prog W = .ok (.slice (some ⟨W.heap.size, 0, none⟩) xs.length xs.length) (W.alloc (.cells (madeCells #[.int .u8 0] xs.length) 5)) := fun W =>
    run_make_row' 22 5 (.int .u8 0) 1 Try.underlying22 info5' rfl .i64 .i64 xs.length (by omega) (by omega) W
  clear hC hR hz hgood hx
  go_enter Try.func21, Try.ntmps21
  go_wp2_with fail
  refine (HC.out ()).mono ?_
  rintro e w1 ⟨g, cap', P, rfl, hg1, hg2, hRP, hO, hk⟩
  obtain ⟨q1, q2, q3, q4, q5⟩ := HB.out
  have hlen := hO.len
  obtain ⟨n, hn⟩ : ∃ n, n = P.length := ⟨_, rfl⟩
  have hn2 : 2 ≤ n := by rw [hn, hlen]; exact q2
  have hnz : n ≤ z := by rw [hn, hlen]; exact q3
  have hn1 : n ≤ 1024 := by
    rw [hn, hlen]
    exact Nat.le_trans (List.length_filter_le _ _) (by simpa using hl)
  have hmk : ∀ W : World, (Instr.makeSlice 84 (.int .i64 (n : Int)) (.int .i64 (n : Int))).run Try.prog W = .ok (.slice (some ⟨W.heap.size, 0, none⟩) n n) (W.alloc (.cells (madeCells #[.int .u64 0, .bool false] (n * 2)) 86)) := fun W => by
    have := run_make (P := Try.prog) W 84 86 i0 (.agg #[.int .u64 0, .bool false]) Try.underlying84 hi hz0 .i64 .i64 (n : Int) (n : Int) (by omega) (by omega) (by rw [hz2]; omega) (by omega)
    rw [hz1] at this
    simpa [Value.cells] using this
  rw [← hn]
  have i1 : ¬ (n : Int) < 2 := by omega
  have i2 : ¬ (z : Int) < (n : Int) := by omega
  obtain ⟨ib, hib⟩ : ∃ ib, ib = w1.heap.size := ⟨_, rfl⟩
  have hnew : (w1.alloc (.cells (madeCells #[.int .u64 0, .bool false] (n * 2)) 86)).heap[ib]? = some (.cells (madeCells #[.int .u64 0, .bool false] (n * 2)) 86 (0, 0)) := by rw [hib]; exact World.alloc_heap_new w1 _
  have hkn : Keep noBlock w1 (w1.alloc (.cells (madeCells #[.int .u64 0, .bool false] (n * 2)) 86)) := (Keep.refl _ w1).alloc _
  have hsz1 := hk.size
  have H1 := (show Hid (n = P.length ∧ Row w1 .i64 (some ⟨g, 0, none⟩) cap' g 0 P ∧ IsOrder (numOf xs) xs.length P ∧ Keep noBlock w w1 ∧ z = 2 ^ most ∧ Row w .u32 a cap gb off xs ∧ (∀ i, numOf xs i < 4294967296) ∧ w.heap.size ≤ g ∧ g < ib ∧ ib = w1.heap.size ∧ w.heap.size ≤ ib ∧ n ≤ z) from ⟨hn, hRP, hO, hk, q1, q4, q5, hg1, by omega, hib, by omega, hnz⟩)
  have H2 := (show Hid (_ ∧ _) from ⟨hnew, hkn⟩)
  clear q1 q2 q3 q4 q5 hlen hn hRP hO hk hg1 hg2 hnew hkn HC HB hnz
  go_wp2
  rw [← hib]
  generalize w1.alloc (.cells (madeCells #[.int .u64 0, .bool false] (n * 2)) 86) = W2 at H2 ⊢
  clear hib hmk i1 i2 hsz1
  go_loopw [43] (fun vi wr => ∃ (i : Nat) (cs : Array Value), vi = .int .i64 (i : Int) ∧ i ≤ n ∧ wr.heap[ib]? = some (.cells cs 86 (0, 0)) ∧ cs.size = n * 2 ∧ (∀ j, j < i → cs[j * 2]? = some (.int .u64 ((numOf xs (P[j]?.getD 0) : Nat) : Int)) ∧ cs[j * 2 + 1]? = some (.bool true)) ∧ Keep noBlock w1 wr) (fun vi _ => n - (intOf vi).toNat)
  case atStart => exact ⟨0, _, rfl, Nat.zero_le _, H2.out.1, by simp [size_madeCells], fun j hj => by omega, H2.out.2⟩
  case round =>
    clear H2
    obtain ⟨i, cs, rfl, hin, ho, hcz, hcs, hkw⟩ := hrel
    by_cases hlt : i < n
    · obtain ⟨h1n, hRP, hO, hk, hz2', hR, hx, hg0, hg1, hib, hwi, _⟩ := H1.out
      have hRPw := hRP.keep hkw (fun _ h => h)
      have c1 := hRPw.cells i (by omega)
      rw [Nat.zero_add] at c1
      have hpm : P[i]?.getD 0 ∈ P := by rw [List.getElem?_eq_getElem (by omega)]; exact List.getElem_mem _
      have hpl := ((hO.mem _).1 hpm).1
      have hRw := hR.keep (hk.trans' hkw) (fun _ h => h)
      obtain rfl : a = some ⟨gb, off, none⟩ := by
        rcases hRw.at_ with h | h
        · exact h
        · rw [h] at hpl; simp at hpl
      have c2 := hRw.cells _ hpl
      have hnum : xs[P[i]?.getD 0]?.getD 0 = numOf xs (P[i]?.getD 0) := rfl
      rw [hnum] at c2
      have hxb := hx (P[i]?.getD 0)
      obtain ⟨p, hp⟩ : ∃ p, p = P[i]?.getD 0 := ⟨_, rfl⟩
      rw [← hp] at c1 c2 hpl hxb
      obtain ⟨x, hxx⟩ : ∃ x, x = numOf xs p := ⟨_, rfl⟩
      rw [← hxx] at c2 hxb
      have hc3 : ∃ v, wr.cell? ⟨ib, i * 2, none⟩ = some v := ⟨cs[i * 2]'(by omega), by rw [cell_of ho, Array.getElem?_eq_getElem (by omega)]⟩
      have hc4 : ∃ v, wr.cell? ⟨ib, i * 2 + 1, none⟩ = some v := ⟨cs[i * 2 + 1]'(by omega), by rw [cell_of ho, Array.getElem?_eq_getElem (by omega)]⟩
      obtain ⟨v3, c3⟩ := hc3
      obtain ⟨v4, c4⟩ := hc4
      have f3 := frozen_of ho (i * 2)
      have f4 := frozen_of ho (i * 2 + 1)
      have hs1 := set_obj ho (i * 2) (.int .u64 (x : Int))
      have hs2 := set_obj hs1 (i * 2 + 1) (.bool true)
      have hkk : Keep noBlock w1 ((wr.setCell ⟨ib, i * 2, none⟩ (.int .u64 (x : Int))).setCell ⟨ib, i * 2 + 1, none⟩ (.bool true)) := Keep.setCell (p := ⟨ib, i * 2 + 1, none⟩) (Keep.setCell (p := ⟨ib, i * 2, none⟩) hkw (fun h => by dsimp only at h; omega) _) (fun h => by dsimp only at h; omega) _
      have HS := (show Hid (((wr.setCell ⟨ib, i * 2, none⟩ (.int .u64 (x : Int))).setCell ⟨ib, i * 2 + 1, none⟩ (.bool true)).heap[ib]? = some (.cells ((cs.setIfInBounds (i * 2) (.int .u64 (x : Int))).setIfInBounds (i * 2 + 1) (.bool true)) 86 (0, 0)) ∧ Keep noBlock w1 ((wr.setCell ⟨ib, i * 2, none⟩ (.int .u64 (x : Int))).setCell ⟨ib, i * 2 + 1, none⟩ (.bool true)) ∧
        ∀ j, j < i + 1 → ((cs.setIfInBounds (i * 2) (.int .u64 (x : Int))).setIfInBounds (i * 2 + 1) (.bool true))[j * 2]? = some (.int .u64 ((numOf xs (P[j]?.getD 0) : Nat) : Int)) ∧ ((cs.setIfInBounds (i * 2) (.int .u64 (x : Int))).setIfInBounds (i * 2 + 1) (.bool true))[j * 2 + 1]? = some (.bool true)) from ⟨hs2, hkk, fun j hj => by
          rw [Array.getElem?_setIfInBounds, Array.getElem?_setIfInBounds, Array.getElem?_setIfInBounds, Array.getElem?_setIfInBounds, Array.size_setIfInBounds]
          by_cases e : j = i
          · subst e
            rw [if_neg (show ¬ j * 2 + 1 = j * 2 by omega), if_pos (show j * 2 = j * 2 from rfl), if_pos (show j * 2 < cs.size by omega), if_pos (show j * 2 + 1 = j * 2 + 1 from rfl), if_pos (show j * 2 + 1 < cs.size by omega), hxx, hp]
            exact ⟨rfl, rfl⟩
          · rw [if_neg (show ¬ i * 2 + 1 = j * 2 by omega), if_neg (show ¬ i * 2 = j * 2 by omega), if_neg (show ¬ i * 2 + 1 = j * 2 + 1 by omega), if_neg (show ¬ i * 2 = j * 2 + 1 by omega)]
            exact hcs j (by omega)⟩)
      have hpI : (p : Int) < (xs.length : Int) := by omega
      have hiI : (i : Int) < (n : Int) := by omega
      clear hs1 hs2 hkk ho hcs hkw hRPw hRw hpm hnum hp hxx hRP hO hk hR hx h1n hz2' hib
      go_wp2
      go_roundw
      case rel => exact ⟨i + 1, _, by go_num, by omega, HS.out.1, by rw [Array.size_setIfInBounds, Array.size_setIfInBounds]; exact hcz, HS.out.2.2, HS.out.2.1⟩
      case measure => simp [intOf]; omega
    · obtain rfl : i = n := by omega
      obtain ⟨h1n, hRP, hO, hk, hz2', hR, hx, hg0, hg1, hib, hwi, hnz⟩ := H1.out
      have hlvl : (lvOf xs P).length = i := by rw [lvOf, List.length_map]; exact h1n.symm
      have hI : Items wr (some ⟨ib, 0, none⟩) i ib 0 (lvOf xs P) := by
        refine ⟨.inl rfl, fun j hj => ?_, by omega, fun _ => obj_lt ho⟩
        have hj' : j < i := by omega
        obtain ⟨r1, r2⟩ := hcs j hj'
        rw [Nat.zero_add, cell_of ho, cell_of ho, r1, r2]
        have hjP : j < P.length := by omega
        simp [lvOf, hjP]
      have hal : ∀ p ∈ lvOf xs P, p.2 = true := by
        intro p hp
        simp only [lvOf, List.mem_map] at hp
        obtain ⟨q, _, rfl⟩ := hp
        rfl
      have hlt32 : ∀ p ∈ lvOf xs P, p.1 < 4294967296 := by
        intro p hp
        simp only [lvOf, List.mem_map] at hp
        obtain ⟨q, _, rfl⟩ := hp
        exact hx q
      have hkl : Keep noBlock wr (wr.alloc (.cells (madeCells #[.int .u8 0] xs.length) 5)) := (Keep.refl _ wr).alloc _
      obtain ⟨lb, hlb⟩ : ∃ lb, lb = wr.heap.size := ⟨_, rfl⟩
      have hnl : (wr.alloc (.cells (madeCells #[.int .u8 0] xs.length) 5)).heap[lb]? = some (.cells (madeCells #[.int .u8 0] xs.length) 5 (0, 0)) := by rw [hlb]; exact World.alloc_heap_new wr _
      have hLg := longer_any ⟨ib, 0, none⟩ i ib 0 most (lvOf xs P) (wr.alloc (.cells (madeCells #[.int .u8 0] xs.length) 5)) (hI.keep hkl (fun _ h => h)) (by omega) (by omega) hm0 hm hlt32 (fun j hj => itF_fits (lvOf xs P) most hal hm0 (by rw [hlvl, ← hz2']; exact hnz) j hj)
      rw [hlvl] at hLg
      have hib2 : ib < lb := by rw [hlb]; exact obj_lt ho
      have HL := (show Hid (∀ u : Unit, Calls Try.prog 39 _ _ _) from fun _ => hLg)
      have hTl : ∀ k, takenF (lvOf xs P) most k ≤ i := fun k => by have := takenF_le (lvOf xs P) most k hal; omega
      have HQ := (show Hid ((wr.alloc (.cells (madeCells #[.int .u8 0] xs.length) 5)).heap[lb]? = some (.cells (madeCells #[.int .u8 0] xs.length) 5 (0, 0)) ∧ Keep noBlock w1 (wr.alloc (.cells (madeCells #[.int .u8 0] xs.length) 5)) ∧ ib < lb ∧ (∀ k, takenF (lvOf xs P) most k ≤ i) ∧ (wr.alloc (.cells (madeCells #[.int .u8 0] xs.length) 5)).heap.size = lb + 1) from ⟨hnl, hkw.trans' hkl, hib2, hTl, by rw [World.size_alloc, hlb]⟩)
      clear hLg hI hal hlt32 hkl hnl ho hcs hkw hRP hO hk hR hx h1n hz2' hib hlvl hTl hnz
      go_wp2_with fail
      refine (HL.out ()).mono ?_
      rintro e w3 ⟨g2, rfl, hRT, hg3, hg4, hk3⟩
      rw [← hlb]
      clear hlb
      obtain ⟨q1, q2, q3, q4, q5⟩ := HQ.out
      have hl3 := hk3.obj q1 (fun h => h)
      rw [q5] at hg3
      have H3 := (show Hid (Row w3 .i64 (some ⟨g2, 0, none⟩) most g2 0 ((List.range most).map (takenF (lvOf xs P) most)) ∧ w3.heap[lb]? = some (.cells (madeCells #[.int .u8 0] xs.length) 5 (0, 0)) ∧ Keep noBlock w1 w3 ∧ lb < g2 ∧ ib < lb ∧ ∀ k, takenF (lvOf xs P) most k ≤ i) from ⟨hRT, hl3, q2.trans' hk3, by omega, q3, q4⟩)
      clear hRT hl3 hk3 q1 q2 q3 q4 q5 hg3 hg4 HL HQ hmk5
      obtain ⟨T, hT⟩ : ∃ T, T = takenF (lvOf xs P) most := ⟨_, rfl⟩
      rw [← hT] at H3
      have HTT := (show Hid (T = takenF (lvOf xs P) most) from hT)
      clear hT
      go_wp2
      go_loopw [65] (fun vk wr => ∃ (k : Nat) (cs : Array Value), vk = .int .i64 (k : Int) ∧ k ≤ most ∧ wr.heap[lb]? = some (.cells cs 5 (0, 0)) ∧ (∀ s, s < xs.length → cs[s]? = some (.int .u8 ((incTo P T k 0 s : Nat) : Int))) ∧ Keep (fun x => x = lb) w3 wr) (fun vk _ => most - (intOf vk).toNat)
      case atStart =>
        refine ⟨0, _, rfl, by omega, H3.out.2.1, fun s hs => ?_, Keep.refl _ _⟩
        rw [incTo_zero]; simp [madeCells, hs, Nat.mod_one]
      case round =>
        obtain ⟨k, cs, rfl, hkm, ho, hcs, hkw⟩ := hrel
        by_cases hlt : k < most
        · obtain ⟨r1, r2, r3, r4, r5, r6⟩ := H3.out
          obtain ⟨h1n, hRP, hO, _⟩ := H1.out
          have c1 := (r1.keep hkw (fun _ => by omega)).cells k (by simpa using hlt)
          have htk : ((List.range most).map T)[k]?.getD 0 = T k := by simp [hlt]
          rw [htk, Nat.zero_add] at c1
          obtain ⟨t, ht⟩ : ∃ t, t = T k := ⟨_, rfl⟩
          rw [← ht] at c1
          have htn : t ≤ i := by rw [ht]; exact r6 k
          have hle := hRP.le
          have htI : (t : Int) ≤ (cap' : Int) := by omega
          have hkI : (k : Int) < (most : Int) := by omega
          have H4 := (show Hid (t = T k ∧ wr.heap[lb]? = some (.cells cs 5 (0, 0)) ∧ (∀ s, s < xs.length → cs[s]? = some (.int .u8 ((incTo P T k 0 s : Nat) : Int))) ∧ Keep (fun x => x = lb) w3 wr) from ⟨ht, ho, hcs, hkw⟩)
          clear ht htk r1 r2 r3 r6 h1n hRP hO hle ho hcs hkw
          go_wp2
          go_loopw [73] (fun vj wr => ∃ (j : Nat) (cs : Array Value), vj = .int .i64 (j : Int) ∧ j ≤ t ∧ wr.heap[lb]? = some (.cells cs 5 (0, 0)) ∧ (∀ s, s < xs.length → cs[s]? = some (.int .u8 ((incTo P T k j s : Nat) : Int))) ∧ Keep (fun x => x = lb) w3 wr) (fun vj _ => t - (intOf vj).toNat)
          case atStart => exact ⟨0, cs, rfl, Nat.zero_le _, H4.out.2.1, H4.out.2.2.1, H4.out.2.2.2⟩
          case round =>
            clear c1
            obtain ⟨j, cs, rfl, hjt, ho, hcs, hkw⟩ := hrel
            by_cases hjl : j < t
            · obtain ⟨_, _, r3, _, _, r6⟩ := H3.out
              obtain ⟨h1n, hRP, hO, _, _, _, _, _, hgi, _⟩ := H1.out
              have hjP : j < P.length := by omega
              have c1 := ((hRP.keep r3 (fun _ h => h)).keep hkw (fun _ => by omega)).cells j hjP
              rw [Nat.zero_add, List.getElem?_eq_getElem hjP, Option.getD_some] at c1
              have hpl := ((hO.mem _).1 (List.getElem_mem hjP)).1
              have c2 := (cell_of ho P[j]).trans (hcs _ hpl)
              have f2 := frozen_of ho P[j]
              have hil := incTo_le P T k j P[j]
              have hset := set_obj ho P[j] (.int .u8 ((incTo P T k j P[j] : Int) + 1))
              have HS := (show Hid ((wr.setCell ⟨lb, P[j], none⟩ (.int .u8 ((incTo P T k j P[j] : Int) + 1))).heap[lb]? = some (.cells (cs.setIfInBounds P[j] (.int .u8 ((incTo P T k j P[j] : Int) + 1))) 5 (0, 0)) ∧ (∀ s, s < xs.length → (cs.setIfInBounds P[j] (.int .u8 ((incTo P T k j P[j] : Int) + 1)))[s]? = some (.int .u8 ((incTo P T k (j + 1) s : Nat) : Int))) ∧ Keep (fun x => x = lb) w3 (wr.setCell ⟨lb, P[j], none⟩ (.int .u8 ((incTo P T k j P[j] : Int) + 1)))) from ⟨hset, fun s hs => by
                rw [Array.getElem?_setIfInBounds, incTo_step P T k j s hO.nodup hjP]
                have hsl : s < cs.size := (Array.getElem?_eq_some_iff.1 (hcs s hs)).1
                by_cases e : P[j] = s
                · rw [if_pos e, if_pos (by rw [e]; exact hsl), if_pos e.symm, e]; rfl
                · rw [if_neg e, if_neg (fun x => e x.symm)]; exact hcs s hs, Keep.setCell (S := fun x => x = lb) (p := ⟨lb, P[j], none⟩) hkw (fun _ => rfl) _⟩)
              obtain ⟨x, hx⟩ : ∃ x, x = incTo P T k j P[j] := ⟨_, rfl⟩
              rw [← hx] at c2 hil HS
              obtain ⟨p, hp⟩ : ∃ p, p = P[j] := ⟨_, rfl⟩
              rw [← hp] at c1 c2 f2 hpl HS
              have hpI : (p : Int) < (xs.length : Int) := by omega
              have hjI : (j : Int) < (t : Int) := by omega
              clear hx hp hset ho hcs hkw hRP hO h1n r3 r6
              go_wp2
              go_roundw
              case rel => exact ⟨j + 1, _, by go_num, by omega, HS.out.1, HS.out.2.1, HS.out.2.2⟩
              case measure => simp [intOf]; omega
            · obtain rfl : j = t := by omega
              have HE := (show Hid (wr.heap[lb]? = some (.cells cs 5 (0, 0)) ∧ (∀ s, s < xs.length → cs[s]? = some (.int .u8 ((incTo P T (k + 1) 0 s : Nat) : Int))) ∧ Keep (fun x => x = lb) w3 wr) from ⟨ho, fun s hs => by rw [hcs s hs, incTo_next, H4.out.1], hkw⟩)
              clear ho hcs hkw
              go_wp2
              go_roundw
              case rel => exact ⟨k + 1, _, by go_num, by omega, HE.out.1, HE.out.2.1, HE.out.2.2⟩
              case measure => simp [intOf]; omega
        · obtain rfl : k = most := by omega
          go_wp2
          go_ret2
          obtain ⟨_, _, r3, r4, r5, _⟩ := H3.out
          obtain ⟨_, _, hO, hk, _, _, _, hg0, hgi, hib, hwi, _⟩ := H1.out
          refine ⟨lb, P, rfl, hO, ⟨.inl rfl, fun s hs => ?_, by simp [limitL]⟩, by omega, obj_lt ho, (hk.trans' r3).trans hkw (fun x hx h => (by omega : False))⟩
          · have hs' : s < xs.length := by simpa [limitL] using hs
            rw [Nat.zero_add, cell_of ho, hcs s hs', HTT.out]
            simp [limitL, hs']

end Go.Proofs.Ytapcohpagipkpaa
