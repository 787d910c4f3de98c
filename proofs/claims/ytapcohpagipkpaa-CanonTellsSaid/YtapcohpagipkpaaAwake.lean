/-
  What the document says of four lengths, and of five counts.
-/
import Derived.Test.YtapcohpagipkpaaWakes
namespace Go.Proofs.Ytapcohpagipkpaa
open Go.RowKit Go.Shelf
theorem num_lt (xs : List Nat) (b : Nat) (h : 0 < b ∧ ∀ x ∈ xs, x < b) : ∀ i, numOf xs i < b := by
  intro i
  unfold numOf
  by_cases hi : i < xs.length
  · rw [List.getElem?_eq_getElem hi]; exact h.2 _ (List.getElem_mem hi)
  · rw [List.getElem?_eq_none (by omega)]; exact h.1
theorem t1 : isCode [2, 1, 3, 3] = true := by decide
theorem t2 : (List.range 4).map (fun s => wordN [2, 1, 3, 3] s % 65536) = [2, 0, 6, 7] := by decide
theorem t3 : isCode [1, 1, 1] = false := by decide
theorem t4 : (placesTo (numOf [8, 4, 2, 1, 1]) 5).length = 5 := by decide
theorem t5 : IsOrder (numOf [8, 4, 2, 1, 1]) 5 [3, 4, 2, 1, 0] := by
  refine ⟨by simp [Lx, numOf], fun x => ?_, by decide⟩
  constructor
  · intro h
    simp at h
    rcases h with rfl | rfl | rfl | rfl | rfl <;> decide
  · rintro ⟨h, _⟩
    have : x = 0 ∨ x = 1 ∨ x = 2 ∨ x = 3 ∨ x = 4 := by omega
    rcases this with rfl | rfl | rfl | rfl | rfl <;> decide
theorem lv8 : lvOf [8, 4, 2, 1, 1] [3, 4, 2, 1, 0] = [(1, true), (1, true), (2, true), (4, true), (8, true)] := by decide
theorem l0 : levelL [(1, true), (1, true), (2, true), (4, true), (8, true)] 0 = [(1, true), (1, true), (2, true), (4, true), (8, true)] := by simp [levelL, pairsL]
theorem l1 : levelL [(1, true), (1, true), (2, true), (4, true), (8, true)] 1 = [(1, true), (1, true), (2, true), (2, false), (4, true), (6, false), (8, true)] := by
  rw [levelL, l0, show pairsL [(1, true), (1, true), (2, true), (4, true), (8, true)] = [(2, false), (6, false)] from by decide]
  simp [leI]
theorem l2 : levelL [(1, true), (1, true), (2, true), (4, true), (8, true)] 2 = [(1, true), (1, true), (2, true), (2, false), (4, true), (4, false), (8, true), (10, false)] := by
  rw [levelL, l1, show pairsL [(1, true), (1, true), (2, true), (2, false), (4, true), (6, false), (8, true)] = [(2, false), (4, false), (10, false)] from by decide]
  simp [leI]
theorem t6 : limitL [8, 4, 2, 1, 1] [3, 4, 2, 1, 0] 3 = [1, 3, 3, 3, 3] := by
  have i0 : itF [(1, true), (1, true), (2, true), (4, true), (8, true)] 3 0 = 8 := rfl
  have i1 : itF [(1, true), (1, true), (2, true), (4, true), (8, true)] 3 1 = 6 := by rw [itF, i0, show 3 - 1 - 0 = 2 from rfl, l2]; decide
  have i2 : itF [(1, true), (1, true), (2, true), (4, true), (8, true)] 3 2 = 4 := by rw [itF, i1, show 3 - 1 - 1 = 1 from rfl, l1]; decide
  have k0 : takenF [(1, true), (1, true), (2, true), (4, true), (8, true)] 3 0 = 4 := by rw [takenF, l0, show 3 - 1 - 0 = 2 from rfl, i2]; decide
  have k1 : takenF [(1, true), (1, true), (2, true), (4, true), (8, true)] 3 1 = 4 := by rw [takenF, l1, show 3 - 1 - 1 = 1 from rfl, i1]; decide
  have k2 : takenF [(1, true), (1, true), (2, true), (4, true), (8, true)] 3 2 = 5 := by rw [takenF, l2, show 3 - 1 - 2 = 0 from rfl, i0]; decide
  have e : ∀ s, incTo [3, 4, 2, 1, 0] (takenF [(1, true), (1, true), (2, true), (4, true), (8, true)] 3) 3 0 s = incTo [3, 4, 2, 1, 0] (fun k => if k = 2 then 5 else 4) 3 0 s := fun s => by
    unfold incTo
    rw [show List.range 3 = [0, 1, 2] from rfl]
    simp only [List.filter_cons, List.filter_nil, k0, k1, k2]
    rfl
  unfold limitL
  rw [lv8, List.map_congr_left (fun s _ => e s)]
  decide
theorem t8 : ∀ i, numOf [8, 4, 2, 1, 1] i < 4294967296 := num_lt _ _ (by decide)
theorem t9 : ∀ i, numOf [1, 3, 3, 3, 3] i < 256 := num_lt _ _ (by decide)
theorem t7 : sumTo [8, 4, 2, 1, 1] [1, 3, 3, 3, 3] 5 = 32 := by decide
/-- A row that was made as it is written. -/
theorem row_lit (k : IntKind) (t : TypeId) (w : World) (xs : List Nat) : Row (w.alloc (.cells (xs.map (fun x => Value.int k ((x : Nat) : Int))).toArray t)) k (some ⟨w.heap.size, 0, none⟩) xs.length w.heap.size 0 xs := by
  refine ⟨.inl rfl, fun j hj => ?_, Nat.le_refl _⟩
  rw [Nat.zero_add, cell_of (World.alloc_heap_new w _)]
  simp [hj]

set_option maxRecDepth 100000 in
set_option maxHeartbeats 4000000 in
theorem wakes_any (w : World) : Calls Try.prog 20 #[] w fun e w' => e = .returned (.bool true) ∧ Keep noBlock w w' := by
  go_enter Try.func20, Try.ntmps20
  go_wp2_with fail
  have hr1 := row_lit .u8 5 w [2, 1, 3, 3]
  have hk1 : Keep noBlock w (w.alloc (.cells ([2, 1, 3, 3].map (fun x => Value.int .u8 ((x : Nat) : Int))).toArray 5)) := (Keep.refl _ w).alloc _
  refine (codes_good _ _ _ _ [2, 1, 3, 3] _ hr1 (by decide) t1).mono ?_
  rintro e w1 ⟨cb, rfl, hb1, hb2, hrc, hk2⟩
  rw [show ([2, 1, 3, 3] : List Nat).length = 4 from rfl, t2] at hrc
  have hkA := hk1.trans' hk2
  clear hr1 hk1 hk2
  go_wp2_with fail
  have hr2 := row_lit .u8 5 w1 [1, 1, 1]
  have hk3 : Keep noBlock w1 (w1.alloc (.cells ([1, 1, 1].map (fun x => Value.int .u8 ((x : Nat) : Int))).toArray 5)) := (Keep.refl _ w1).alloc _
  refine (codes_bad _ _ _ _ [1, 1, 1] _ hr2 (by decide) t3).mono ?_
  rintro e w2 ⟨rfl, hk4⟩
  have hkB := hk3.trans' hk4
  clear hr2 hk3 hk4
  go_wp2_with fail
  have hr3 := row_lit .u32 59 w2 [8, 4, 2, 1, 1]
  have hk5 : Keep noBlock w2 (w2.alloc (.cells ([8, 4, 2, 1, 1].map (fun x => Value.int .u32 ((x : Nat) : Int))).toArray 59)) := (Keep.refl _ w2).alloc _
  refine (limit_good _ _ _ _ 3 [8, 4, 2, 1, 1] _ hr3 t8 (by decide) (by decide) (by decide) (by decide)).mono ?_
  rintro e w3 ⟨lb, P, rfl, hO, hrl, hl1, hl2, hk6⟩
  obtain rfl := IsOrder.same hO t5
  rw [t6] at hrl
  have hkC := hk5.trans' hk6
  clear hr3 hk5 hk6 hO
  have hrc3 := hrc.keep (hkB.trans' hkC) (fun _ h => h)
  go_wp2_with fail
  have hr4 := row_lit .u16 51 w3 [2, 0, 6, 7]
  have hk7 : Keep noBlock w3 (w3.alloc (.cells ([2, 0, 6, 7].map (fun x => Value.int .u16 ((x : Nat) : Int))).toArray 51)) := (Keep.refl _ w3).alloc _
  have hsm := same_any _ _ _ _ _ _ _ _ [2, 0, 6, 7] [2, 0, 6, 7] _ (hrc3.keep hk7 (fun _ h => h)) hr4 (by decide)
  rw [decide_eq_true rfl] at hsm
  refine hsm.mono ?_
  rintro e w4 ⟨rfl, q4, rfl⟩
  obtain ⟨w4, hw4⟩ : ∃ w4, w4 = (w3.alloc (.cells ([2, 0, 6, 7].map (fun x => Value.int .u16 ((x : Nat) : Int))).toArray 51)).drewN q4 := ⟨_, rfl⟩
  have hk8 : Keep noBlock w3 w4 := by rw [hw4]; exact ⟨hk7.os, hk7.tape, hk7.output, hk7.size, hk7.block⟩
  rw [← hw4]
  clear hsm hr4 hk7 hw4 hrc3 hrc
  have hrl4 := hrl.keep hk8 (fun _ h => h)
  go_wp2_with fail
  have hr5 := row_lit .u32 59 w4 [8, 4, 2, 1, 1]
  have hk9 : Keep noBlock w4 (w4.alloc (.cells ([8, 4, 2, 1, 1].map (fun x => Value.int .u32 ((x : Nat) : Int))).toArray 59)) := (Keep.refl _ w4).alloc _
  have hsu := sum_any _ _ _ _ _ _ _ _ [8, 4, 2, 1, 1] [1, 3, 3, 3, 3] _ hr5 (hrl4.keep hk9 (fun _ h => h)) (by decide) rfl t8 t9
  rw [show ([8, 4, 2, 1, 1] : List Nat).length = 5 from rfl, t7] at hsu
  refine hsu.mono ?_
  rintro e w5 ⟨rfl, q5, rfl⟩
  have hkZ : Keep noBlock w ((w4.alloc (.cells ([8, 4, 2, 1, 1].map (fun x => Value.int .u32 ((x : Nat) : Int))).toArray 59)).drewN q5) := by
    have := (((hkA.trans' hkB).trans' hkC).trans' hk8).trans' hk9
    exact ⟨this.os, this.tape, this.output, this.size, this.block⟩
  generalize (w4.alloc (.cells ([8, 4, 2, 1, 1].map (fun x => Value.int .u32 ((x : Nat) : Int))).toArray 59)).drewN q5 = w5 at hkZ ⊢
  clear hsu hr5 hk9 hrl4
  go_wp2
  go_ret
  exact ⟨rfl, hkZ⟩

end Go.Proofs.Ytapcohpagipkpaa
